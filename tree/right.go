package tree

import (
	"arbour/api"
	"arbour/attrs"
)

// Right tells whether t is a Document, and all below it as the rules of trees ask.
func Right(t api.Tree) bool {
	if t.Kind != api.Document {
		return false
	}
	w := begin(t)
	for n, _, ok := w.next(); ok; n, _, ok = w.next() {
		if !hasRightFields(n) || !hasRightKids(n) {
			return false
		}
	}
	return !w.endless
}

// hasRightFields tells whether n, without its kids, has what its Kind must have, and nothing that it must not.
func hasRightFields(n *api.Tree) bool {
	switch n.Kind {
	case api.Document, api.Content:
		return isLabelled(n, api.Tree{Kind: n.Kind})
	case api.DoctypeNode:
		return isLabelled(n, api.Tree{Kind: n.Kind, Name: n.Name})
	case api.Element:
		return isRightElement(n)
	case api.TextNode:
		return n.Text != "" && isLabelled(n, api.Tree{Kind: n.Kind, Text: n.Text})
	case api.CommentNode:
		return isLabelled(n, api.Tree{Kind: n.Kind, Text: n.Text})
	}
	return false
}

func isRightElement(n *api.Tree) bool {
	if n.NS != api.HTML && n.NS != api.SVG || n.Name == "" || n.Text != "" {
		return false
	}
	return len(attrs.Unique(n.Attrs)) == len(n.Attrs)
}

// hasRightKids tells whether the kids of n may stand under it, and side by side.
func hasRightKids(n *api.Tree) bool {
	switch n.Kind {
	case api.DoctypeNode, api.TextNode, api.CommentNode:
		return len(n.Kids) == 0
	}
	if isTemplate(n) && len(n.Kids) == 0 {
		return false
	}
	for i := range n.Kids {
		if !mayStand(n, i) {
			return false
		}
	}
	return true
}

// mayStand tells whether the i-th kid of n may stand there, as far as its Kind says.
func mayStand(n *api.Tree, i int) bool {
	kind := n.Kids[i].Kind
	if (kind == api.Content) != (i == 0 && isTemplate(n)) {
		return false
	}
	switch kind {
	case api.Document:
		return false
	case api.DoctypeNode:
		return n.Kind == api.Document
	case api.TextNode:
		behindText := i > 0 && n.Kids[i-1].Kind == api.TextNode
		return n.Kind != api.Document && !behindText
	}
	return true
}

// isTemplate tells whether n must have Contents: the template of SVG is an element as any other.
func isTemplate(n *api.Tree) bool {
	return n.Kind == api.Element && n.NS == api.HTML && n.Name == "template"
}
