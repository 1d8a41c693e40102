package tree

import (
	"slices"
	"strings"
	"testing"

	"arbour/api"
)

// The promise's words, one after the other, by calls within calls, which small trees allow.

func rightByWords(t api.Tree) bool {
	return t.Kind == api.Document && slices.IndexFunc(rowsOf(t), func(r row) bool { return !rightRow(r) }) < 0
}

// row is a node with those around it.
type row struct {
	n, parent api.Tree
	at        int // which kid it is; -1 of the top
}

func rowsOf(t api.Tree) []row {
	all := []row{{n: t, at: -1}}
	for i, kid := range t.Kids {
		below := rowsOf(kid)
		below[0].parent, below[0].at = t, i
		all = append(all, below...)
	}
	return all
}

func hasOnly(n api.Tree, fields string) bool {
	for _, f := range []struct {
		name string
		set  bool
	}{{"NS", n.NS != 0}, {"Name", n.Name != ""}, {"Attrs", len(n.Attrs) > 0}, {"Text", n.Text != ""}, {"Kids", len(n.Kids) > 0}} {
		if f.set && !strings.Contains(fields, f.name) {
			return false
		}
	}
	return true
}

func rightRow(r row) bool {
	template := func(n api.Tree) bool { return n.Kind == api.Element && n.NS == api.HTML && n.Name == "template" }
	switch r.n.Kind {
	case api.Document:
		return r.at == -1 && hasOnly(r.n, "Kids")
	case api.Content:
		return r.at == 0 && template(r.parent) && hasOnly(r.n, "Kids")
	case api.DoctypeNode:
		return r.parent.Kind == api.Document && hasOnly(r.n, "Name")
	case api.CommentNode:
		return hasOnly(r.n, "Text")
	case api.TextNode:
		if r.at > 0 && r.parent.Kids[r.at-1].Kind == api.TextNode {
			return false
		}
		return r.n.Text != "" && r.parent.Kind != api.Document && hasOnly(r.n, "Text")
	case api.Element:
		if template(r.n) && (len(r.n.Kids) == 0 || r.n.Kids[0].Kind != api.Content) {
			return false
		}
		for i, a := range r.n.Attrs {
			for _, b := range r.n.Attrs[:i] {
				if a.Name == b.Name {
					return false
				}
			}
		}
		return (r.n.NS == api.HTML || r.n.NS == api.SVG) && r.n.Name != "" && r.n.Text == ""
	}
	return false
}

func depthByWords(t api.Tree) int {
	deepest := 0
	for _, kid := range t.Kids {
		deepest = max(deepest, depthByWords(kid))
	}
	return deepest + 1
}

func textByWords(t api.Tree) string {
	out := ""
	for _, r := range rowsOf(t) {
		if r.n.Kind == api.TextNode {
			out += r.n.Text
		}
	}
	return out
}

func showByWords(t api.Tree, blanks string) string {
	out := ""
	for _, n := range t.Kids {
		line := "?"
		switch n.Kind {
		case api.DoctypeNode:
			line = "<!" + n.Name + ">"
		case api.TextNode:
			line = `"` + n.Text + `"`
		case api.CommentNode:
			line = "<!-- " + n.Text + " -->"
		case api.Content:
			line = "content"
		case api.Element:
			line = "<" + map[bool]string{true: "svg:"}[n.NS == api.SVG] + n.Name
			for _, a := range n.Attrs {
				line += " " + a.Name + `="` + a.Value + `"`
			}
			line += ">"
		}
		out += blanks + line + "\n" + showByWords(n, blanks+"  ")
	}
	return out
}

// dice gives numbers that look like any, the same ones each time.
type dice struct{ state uint64 }

func (d *dice) below(n int) int {
	d.state = d.state*6364136223846793005 + 1442695040888963407
	return int((d.state >> 33) % uint64(n))
}

// grow makes a tree that is mostly right, of at most so many levels.
func (d *dice) grow(kind, levels int) api.Tree {
	n := oneOf(kind)
	if kind == api.Element {
		n.NS = 1 + d.below(2)
		n.Name = []string{"p", "b", "template"}[d.below(3)]
		for i := range d.below(3) {
			n.Attrs = append(n.Attrs, api.Attr{Name: []string{"x", "y"}[i], Value: []string{"", "1"}[d.below(2)]})
		}
	}
	if n.Kind == api.Element && n.NS == api.HTML && n.Name == "template" {
		n.Kids = append(n.Kids, d.grow(api.Content, levels-1))
	}
	if levels <= 1 || kind == api.TextNode || kind == api.CommentNode || kind == api.DoctypeNode {
		return n
	}
	for range d.below(4) {
		next := []int{api.Element, api.Element, api.CommentNode, api.TextNode}[d.below(4)]
		afterText := len(n.Kids) > 0 && n.Kids[len(n.Kids)-1].Kind == api.TextNode
		if next == api.TextNode && (kind == api.Document || afterText) {
			next = []int{api.CommentNode, api.Element}[d.below(2)]
		}
		if kind == api.Document && d.below(4) == 0 {
			next = api.DoctypeNode
		}
		n.Kids = append(n.Kids, d.grow(next, levels-1))
	}
	return n
}

// spoil turns one field of one node.
func (d *dice) spoil(t *api.Tree) {
	all := nodesOf(t)
	n := all[d.below(len(all))]
	switch d.below(9) {
	case 0:
		n.Kind = d.below(9) - 1
	case 1:
		n.NS = d.below(4)
	case 2:
		n.Name = []string{"", "p", "template"}[d.below(3)]
	case 3:
		n.Text = []string{"", "t"}[d.below(2)]
	case 4:
		n.Attrs = append(n.Attrs[:len(n.Attrs):len(n.Attrs)], api.Attr{Name: "x"})
	case 5:
		n.Attrs = nil
	case 6:
		n.Kids = append(n.Kids[:len(n.Kids):len(n.Kids)], d.grow(1+d.below(6), 2))
	case 7:
		n.Kids = n.Kids[:len(n.Kids)/2]
	case 8:
		n.Kids = append([]api.Tree{d.grow(1+d.below(6), 2)}, n.Kids...)
	}
}

func TestAgainstTheWords(t *testing.T) {
	d := &dice{}
	last := api.Tree{}
	right, wrong := 0, 0
	for range 30000 {
		x := d.grow(api.Document, 1+d.below(5))
		for range d.below(3) {
			d.spoil(&x)
		}
		mustRight(t, x, rightByWords(x))
		if rightByWords(x) {
			right++
		} else {
			wrong++
		}
		mustMeasure(t, x, len(rowsOf(x)), depthByWords(x), textByWords(x))
		if got, want := Show(x), showByWords(x, ""); got != want {
			t.Errorf("Show(%s):\n%s\nwant:\n%s", brief(x), got, want)
		}
		y := Copy(x)
		mustSame(t, x, y, true)
		d.spoil(&y)
		mustSame(t, x, y, brief(x) == brief(y))
		mustSame(t, x, last, brief(x) == brief(last))
		last = x
		if t.Failed() {
			return
		}
	}
	if right < 5000 || wrong < 5000 {
		t.Errorf("%d right ones, %d wrong ones: too few of one to tell", right, wrong)
	}
}
