package scribe

import (
	"strings"

	"arbour/api"
	"arbour/attrs"
	"arbour/names"
	"arbour/open"
)

// spot is where a node comes: right ahead of ref, if that is one and has a parent; else at the end of parent.
type spot struct{ parent, ref int }

// write adds an operation to those that come of the token.
func (s *Scribe) write(o api.Op) { s.ops = append(s.ops, o) }

// next tells a handle that was not given yet.
func (s *Scribe) next() int {
	s.handle++
	return s.handle
}

// build makes an element that hangs nowhere.
func (s *Scribe) build(ns int, name string, l []api.Attr) open.Item[int] {
	x := open.Item[int]{H: s.next(), NS: ns, Name: strings.Clone(name)}
	s.write(api.Op{Kind: api.Make, Node: x.H, Type: api.Element, NS: ns, Name: x.Name, Attrs: own(l)})
	if isOf(x, "template") {
		s.write(api.Op{Kind: api.Inner, Node: s.next(), Ref: x.H})
	}
	return x
}

// own tells l in memory of its own, its texts, too: what is handed in is not kept.
func own(l []api.Attr) []api.Attr {
	var all []api.Attr
	for _, a := range l {
		all = append(all, api.Attr{Name: strings.Clone(a.Name), Value: strings.Clone(a.Value)})
	}
	return all
}

// within tells what the kids of x hang under: of a template its Content, whose handle is the next one.
func within(x open.Item[int]) int {
	if isOf(x, "template") {
		return x.H + 1
	}
	return x.H
}

// place tells the place for a node; under the Document, if nothing is open.
func (s *Scribe) place() spot {
	x, _ := s.open.Top()
	return s.under(x, s.fostering)
}

// under tells the place for a node, as if x were the current element.
func (s *Scribe) under(x open.Item[int], fostering bool) spot {
	if !fostering || !isOf(x, "table", "tbody", "tfoot", "thead", "tr") {
		return spot{parent: within(x)}
	}
	table, template := s.open.last("table"), s.open.last("template")
	if template > table {
		m, _ := s.open.At(template)
		return spot{parent: within(m)}
	}
	if table < 0 {
		first, _ := s.open.At(0)
		return spot{parent: within(first)}
	}
	t, _ := s.open.At(table)
	below, _ := s.open.At(table - 1)
	return spot{parent: within(below), ref: t.H}
}

// put hangs the node h in at a place.
func (s *Scribe) put(h int, at spot) {
	if at.ref == none {
		s.write(api.Op{Kind: api.Append, Node: h, Parent: at.parent})
		return
	}
	s.write(api.Op{Kind: api.Foster, Node: h, Parent: at.parent, Ref: at.ref})
}

// move takes the node h away from where it hangs, and hangs it in at a place.
func (s *Scribe) move(h int, at spot) {
	s.write(api.Op{Kind: api.Detach, Node: h})
	s.put(h, at)
}

// insert makes an element of HTML, puts it at the place, and pushes it.
func (s *Scribe) insert(name string, l []api.Attr) open.Item[int] {
	return s.insertIn(api.HTML, name, l)
}

// insertIn does that in a namespace.
func (s *Scribe) insertIn(ns int, name string, l []api.Attr) open.Item[int] {
	at := s.place()
	x := s.build(ns, name, l)
	s.put(x.H, at)
	s.open.Push(x)
	return x
}

// insertFor inserts an element for a Start.
func (s *Scribe) insertFor(t api.Token) open.Item[int] { return s.insert(t.Name, t.Attrs) }

// insertVoid inserts an element for a Start, and pops it.
func (s *Scribe) insertVoid(t api.Token) {
	s.insertFor(t)
	s.open.Pop()
}

// insertSVG inserts an element of SVG for a Start, and pops it, if it closes itself.
func (s *Scribe) insertSVG(t api.Token) {
	s.insertIn(api.SVG, names.Fix(t.Name), attrs.Foreign(t.Attrs))
	if t.Self {
		s.open.Pop()
	}
}

// insertText puts text at the place.
func (s *Scribe) insertText(text string) {
	at := s.place()
	if at.ref == none {
		s.write(api.Op{Kind: api.Write, Parent: at.parent, Text: strings.Clone(text)})
		return
	}
	s.write(api.Op{Kind: api.Pour, Parent: at.parent, Ref: at.ref, Text: strings.Clone(text)})
}

// insertComment puts a comment under the current element, also while fostering.
func (s *Scribe) insertComment(t api.Token) {
	x, _ := s.open.Top()
	s.comment(t, within(x))
}

// comment puts a comment at the end of parent.
func (s *Scribe) comment(t api.Token, parent int) {
	h := s.next()
	s.write(api.Op{Kind: api.Make, Node: h, Type: api.CommentNode, Text: strings.Clone(t.Text)})
	s.put(h, spot{parent: parent})
}

// doctype puts a doctype under the Document.
func (s *Scribe) doctype(t api.Token) {
	h := s.next()
	s.write(api.Op{Kind: api.Make, Node: h, Type: api.DoctypeNode, Name: strings.Clone(t.Name)})
	s.put(h, spot{})
}

// quirks makes the document quirky.
func (s *Scribe) quirks() {
	s.quirky = true
	s.write(api.Op{Kind: api.Quirks})
}

// more gives the i-th open element what attributes it has not.
func (s *Scribe) more(i int, l []api.Attr) {
	x, _ := s.open.At(i)
	s.write(api.Op{Kind: api.More, Node: x.H, Attrs: own(l)})
}
