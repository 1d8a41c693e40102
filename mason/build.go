package mason

import (
	"strings"

	"arbour/api"
	"arbour/attrs"
	"arbour/names"
	"arbour/open"
)

// spot is where a node comes: right ahead of ref, if that is a node; else at the end of parent.
type spot struct{ parent, ref int }

// within tells what the kids of x hang under: of a template its Content.
func (m *Mason) within(x open.Item[int]) int {
	if isOf(x, "template") {
		content, _ := m.arena.Content(x.H)
		return content
	}
	return x.H
}

// place tells the place for a node; under the Document, if nothing is open.
func (m *Mason) place() spot {
	x, _ := m.open.Top()
	if m.fostering {
		return m.foster(x)
	}
	return spot{parent: m.within(x)}
}

// foster tells the place for a node while fostering, as if x were the current element.
func (m *Mason) foster(x open.Item[int]) spot {
	if !isOf(x, "table", "tbody", "tfoot", "thead", "tr") {
		return spot{parent: m.within(x)}
	}
	table, template := m.open.last("table"), m.open.last("template")
	if template > table {
		return spot{parent: m.withinAt(template)}
	}
	if table < 0 {
		return spot{parent: m.withinAt(0)}
	}
	t, _ := m.open.At(table)
	if _, hangs := m.arena.Parent(t.H); hangs {
		return spot{ref: t.H}
	}
	return spot{parent: m.withinAt(table - 1)}
}

// withinAt tells what the kids of the i-th open element hang under.
func (m *Mason) withinAt(i int) int {
	x, _ := m.open.At(i)
	return m.within(x)
}

// put hangs the node n in at a place.
func (m *Mason) put(n int, at spot) {
	if at.ref != none {
		m.arena.Before(at.ref, n)
		return
	}
	m.arena.Append(at.parent, n)
}

// move takes the node n away from where it hangs, and hangs it in at a place.
func (m *Mason) move(n int, at spot) {
	m.arena.Detach(n)
	m.put(n, at)
}

// create makes an element that hangs nowhere.
func (m *Mason) create(ns int, name string, l []api.Attr) open.Item[int] {
	n, _ := m.arena.Make(api.Element, ns, name, l, "")
	return open.Item[int]{H: n, NS: ns, Name: strings.Clone(name)}
}

// insert makes an element of HTML, puts it at the place, and pushes it.
func (m *Mason) insert(name string, l []api.Attr) open.Item[int] {
	return m.insertIn(api.HTML, name, l)
}

// insertIn does that in a namespace.
func (m *Mason) insertIn(ns int, name string, l []api.Attr) open.Item[int] {
	x := m.create(ns, name, l)
	m.put(x.H, m.place())
	m.open.Push(x)
	return x
}

// insertFor inserts an element for a Start.
func (m *Mason) insertFor(t api.Token) open.Item[int] { return m.insert(t.Name, t.Attrs) }

// insertVoid inserts an element for a Start, and pops it.
func (m *Mason) insertVoid(t api.Token) {
	m.insertFor(t)
	m.open.Pop()
}

// insertSVG inserts an element of SVG for a Start, and pops it, if it closes itself.
func (m *Mason) insertSVG(t api.Token) {
	m.insertIn(api.SVG, names.Fix(t.Name), attrs.Foreign(t.Attrs))
	if t.Self {
		m.open.Pop()
	}
}

// insertText puts text at the place, behind the Text that stands there.
func (m *Mason) insertText(text string) {
	at := m.place()
	if at.ref != none {
		m.arena.WriteBefore(at.ref, text)
		return
	}
	m.arena.Write(at.parent, text)
}

// insertComment puts a comment at the end of parent.
func (m *Mason) insertComment(text string, parent int) {
	n, _ := m.arena.Make(api.CommentNode, 0, "", nil, text)
	m.arena.Append(parent, n)
}

// more gives the i-th open element what attributes it has not.
func (m *Mason) more(i int, l []api.Attr) {
	x, _ := m.open.At(i)
	m.arena.More(x.H, l)
}

// own tells l in memory of its own, its texts, too: what is handed in is not kept.
func own(l []api.Attr) []api.Attr { return attrs.More(l, nil) }
