package serial

import (
	"strings"

	"arbour/api"
	"arbour/names"
	"arbour/stack"
)

// place is a node that what is being written stands under, and which of its kids comes next.
type place struct {
	parent *api.Tree
	next   int
}

// writer goes through a tree in order, by a pile: calls within calls would run out of room in a deep one.
type writer struct {
	b         strings.Builder
	scripting bool
	way       *stack.Stack[place] // the first one is the node whose inside is asked for
}

// enter lets the kids of n come next.
func (w *writer) enter(n *api.Tree) { w.way.Push(place{parent: n}) }

// next ends the elements that have no more kids, and tells the next node and its parent, both to be read alone; false behind the last.
func (w *writer) next() (n, parent *api.Tree, ok bool) {
	for at, more := w.way.Pop(); more; at, more = w.way.Pop() {
		if at.next < len(at.parent.Kids) {
			w.way.Push(place{parent: at.parent, next: at.next + 1})
			return &at.parent.Kids[at.next], at.parent, true
		}
		if at.parent.Kind == api.Element && w.way.Len() > 0 {
			write(&w.b, "</", at.parent.Name, ">")
		}
	}
	return nil, nil, false
}

// node writes n as far as its kids, and lets them come next if they are written at all.
func (w *writer) node(n, parent *api.Tree) {
	if isTemplate(parent) && n.Kind != api.Content {
		return
	}
	switch n.Kind {
	case api.DoctypeNode:
		write(&w.b, "<!DOCTYPE ", n.Name, ">")
	case api.Element:
		w.start(n)
	case api.TextNode:
		w.text(n.Text, parent)
	case api.CommentNode:
		write(&w.b, "<!--", n.Text, "-->")
	case api.Content:
		w.enter(n)
	}
}

func (w *writer) start(n *api.Tree) {
	write(&w.b, "<", n.Name)
	for _, a := range n.Attrs {
		write(&w.b, " ", a.Name, `="`)
		escape(&w.b, a.Value, true)
		write(&w.b, `"`)
	}
	write(&w.b, ">")
	if n.NS != api.HTML || !names.Void(n.Name) {
		w.enter(n)
	}
}

func (w *writer) text(s string, parent *api.Tree) {
	if w.isRaw(parent) {
		write(&w.b, s)
		return
	}
	escape(&w.b, s, false)
}

// isRaw tells whether references are none in the texts right below n, so that they must be written as they are.
func (w *writer) isRaw(n *api.Tree) bool {
	if n.Kind != api.Element || n.NS != api.HTML {
		return false
	}
	mode := names.Raw(n.Name, w.scripting)
	return mode == api.Rawtext || mode == api.Plaintext
}

// isTemplate tells whether what n holds is in its Contents alone: the template of SVG is an element as any other.
func isTemplate(n *api.Tree) bool {
	return n.Kind == api.Element && n.NS == api.HTML && n.Name == "template"
}
