package serial

import (
	"testing"

	"arbour/api"
)

// The promise's words, one after the other, by calls within calls, which small trees allow.

func isOf(n api.Tree, names ...string) bool {
	for _, name := range names {
		if n.Kind == api.Element && n.NS == api.HTML && n.Name == name {
			return true
		}
	}
	return false
}

func innerByWords(t api.Tree, scripting bool) string {
	out := ""
	for _, kid := range t.Kids {
		if isOf(t, "template") && kid.Kind != api.Content {
			continue
		}
		out += nodeByWords(t, kid, scripting)
	}
	return out
}

func nodeByWords(parent, n api.Tree, scripting bool) string {
	switch n.Kind {
	case api.Content:
		return innerByWords(n, scripting)
	case api.Element:
		out := "<" + n.Name
		for _, a := range n.Attrs {
			out += " " + a.Name + `="` + replaced(a.Value, true) + `"`
		}
		if isOf(n, voids...) {
			return out + ">"
		}
		return out + ">" + innerByWords(n, scripting) + "</" + n.Name + ">"
	case api.TextNode:
		if isOf(parent, "script", "style", "xmp", "plaintext") || scripting && isOf(parent, "noscript") {
			return n.Text
		}
		return replaced(n.Text, false)
	case api.CommentNode:
		return "<!--" + n.Text + "-->"
	case api.DoctypeNode:
		return "<!DOCTYPE " + n.Name + ">"
	}
	return ""
}

var elementNames = []string{"p", "b", "div", "br", "img", "script", "style", "xmp", "plaintext", "noscript", "title", "textarea", "template", "template", "svg", "", "BR"}

// drawnTree is any tree, mostly of elements and texts; of some nodes more is set than their Kind names.
func drawnTree(d *dice, steps int) api.Tree {
	n := api.Tree{Kind: kinds()[d.draw(8)], NS: d.draw(4), Name: d.of(elementNames), Text: drawnText(d, 4)}
	switch d.draw(8) {
	case 0, 1, 2:
		n.Kind, n.NS = api.Element, 1+d.draw(2)
	case 3, 4:
		n = text(n.Text)
	case 5:
		n.Kind = api.Content
	}
	for range d.draw(3) {
		n = with(n, d.of([]string{"a", "b", "", "<"}), drawnText(d, 3))
	}
	if steps > 0 {
		for range d.draw(5) {
			n.Kids = append(n.Kids, drawnTree(d, steps-1))
		}
	}
	return n
}

func TestDrawnTrees(t *testing.T) {
	d := dice(232)
	for range 20000 {
		x := drawnTree(&d, 1+d.draw(4))
		mustBe(t, x, innerByWords(x, false), innerByWords(x, true))
	}
}

// TestEachKindUnderEachElement has three nodes one below the other, and a text behind.
func TestEachKindUnderEachElement(t *testing.T) {
	for _, outer := range elementNames {
		for _, inner := range append([]string{"wbr"}, elementNames...) {
			for ns := range 3 {
				for _, kind := range kinds() {
					n := full(kind, inner, text("<"), content(text("&")), text(">"))
					x := of(ns, el(outer, text("<"), n, content(n), text("\u00a0")))
					mustBe(t, x, innerByWords(x, false), innerByWords(x, true))
					mustBe(t, doc(x), innerByWords(doc(x), false), innerByWords(doc(x), true))
				}
			}
		}
	}
}
