package tree

import (
	"strings"

	"arbour/api"
)

// mostBytes is what one answer may have.
const mostBytes = 1<<31 - 1

// Show tells a line for each node below t.
func Show(t api.Tree) string {
	room, ok := blanks(t)
	if !ok {
		return ""
	}
	var b strings.Builder
	b.Grow(room)
	pad := "  "
	w := begin(t)
	for n, steps, more := w.next(); more; n, steps, more = w.next() {
		if steps == 0 {
			continue
		}
		for len(pad) < 2*(steps-1) {
			pad += pad
		}
		b.WriteString(pad[:2*(steps-1)])
		writeNode(&b, n)
		b.WriteByte('\n')
	}
	return b.String()
}

// blanks tells how many stand ahead of all lines; false if there are more than an answer may have. They alone make Show's answer greater than what it is given: as the square of a tree's depth, up to where no memory holds it.
func blanks(t api.Tree) (int, bool) {
	sum := 0
	w := begin(t)
	for _, steps, more := w.next(); more; _, steps, more = w.next() {
		if steps == 0 {
			continue
		}
		if 2*(steps-1) > mostBytes-sum {
			return 0, false
		}
		sum += 2 * (steps - 1)
	}
	return sum, true
}

func writeNode(b *strings.Builder, n *api.Tree) {
	switch n.Kind {
	case api.DoctypeNode:
		write(b, "<!", n.Name, ">")
	case api.Element:
		writeElement(b, n)
	case api.TextNode:
		write(b, `"`, n.Text, `"`)
	case api.CommentNode:
		write(b, "<!-- ", n.Text, " -->")
	case api.Content:
		write(b, "content")
	default:
		write(b, "?")
	}
}

func writeElement(b *strings.Builder, n *api.Tree) {
	write(b, "<")
	if n.NS == api.SVG {
		write(b, "svg:")
	}
	write(b, n.Name)
	for _, a := range n.Attrs {
		write(b, " ", a.Name, `="`, a.Value, `"`)
	}
	write(b, ">")
}

func write(b *strings.Builder, parts ...string) {
	for _, s := range parts {
		b.WriteString(s)
	}
}
