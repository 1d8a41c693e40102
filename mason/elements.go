package mason

import (
	"slices"

	"arbour/api"
	"arbour/chars"
	"arbour/names"
	"arbour/open"
)

// What the rules look down for, beside the four scopes: the last element of HTML, the last Special one, and the last one that an item of a list is not looked for below.
const (
	plain = open.Tables + 1 + iota
	special
	wall
	marks // how many there are, and one
)

// kind is what elements are looked up by: Ends mean those of SVG by names in small letters.
type kind struct {
	ns   int
	name string
}

// note is what is kept ready of an open element.
type note struct {
	h, place int
	kind     kind
	bears    [marks]bool
	last     [marks]*note // of each mark the last one that bears it, this one or below; nil of none
}

// elements are the open ones. Most tokens ask where some of them are: to go through all each time takes time as the square of the depth, so that is kept ready.
type elements struct {
	*open.List[int]
	notes   []*note // of those that have been popped since, too, until settle
	kinds   map[kind][]*note
	handles map[int]*note
}

func newElements() *elements {
	return &elements{List: open.New[int](), kinds: map[kind][]*note{}, handles: map[int]*note{}}
}

// kindOf tells what x is looked up by.
func kindOf(x open.Item[int]) kind {
	if x.NS == api.HTML {
		return kind{x.NS, x.Name}
	}
	return kind{x.NS, chars.Lower(x.Name)}
}

// isOf tells whether x is of one of these names, which elements of HTML alone can be.
func isOf(x open.Item[int], list ...string) bool {
	return x.NS == api.HTML && slices.Contains(list, x.Name)
}

// Push makes x the current one.
func (e *elements) Push(x open.Item[int]) {
	e.settle()
	e.List.Push(x)
	e.add(e.Len()-1, x)
}

// After puts x right above h, which is open.
func (e *elements) After(h int, x open.Item[int]) {
	i := e.Place(h)
	e.List.After(h, x)
	e.add(i+1, x)
}

// Replace puts x where h is, which is open and of the same name.
func (e *elements) Replace(h int, x open.Item[int]) {
	e.settle()
	e.List.Replace(h, x)
	n := e.handles[h]
	delete(e.handles, h)
	n.h = x.H
	e.handles[n.h] = n
}

// Remove takes h away, wherever it is.
func (e *elements) Remove(h int) {
	i := e.Place(h)
	if i < 0 {
		return
	}
	e.List.Remove(h)
	e.drop(i)
	e.renumber(i)
}

// Place tells where h is; -1 if it is nowhere.
func (e *elements) Place(h int) int {
	e.settle()
	return placeOf(e.handles[h])
}

// placeOf tells a note's place; -1 of none.
func placeOf(n *note) int {
	if n == nil {
		return -1
	}
	return n.place
}

// settle forgets the notes of those that have been popped.
func (e *elements) settle() {
	for i := len(e.notes) - 1; i >= e.Len(); i-- {
		e.drop(i)
	}
}

// drop forgets the i-th note.
func (e *elements) drop(i int) {
	n := e.notes[i]
	e.notes = slices.Delete(e.notes, i, i+1)
	delete(e.handles, n.h)
	l := e.kinds[n.kind]
	// Mostly it is the last one.
	at := len(l) - 1
	for l[at] != n {
		at--
	}
	e.kinds[n.kind] = slices.Delete(l, at, at+1)
}

// add makes a note of x, which has come to the place i.
func (e *elements) add(i int, x open.Item[int]) {
	n := &note{h: x.H, place: i, kind: kindOf(x)}
	for mark := open.Any; mark < marks; mark++ {
		n.bears[mark] = bears(x, mark)
	}
	l := e.kinds[n.kind]
	at := len(l)
	for at > 0 && l[at-1].place >= i {
		at--
	}
	e.kinds[n.kind] = slices.Insert(l, at, n)
	e.handles[n.h] = n
	e.notes = slices.Insert(e.notes, i, n)
	e.renumber(i)
}

// renumber says anew what hangs on the elements below, from the place i on.
func (e *elements) renumber(i int) {
	for at, n := range e.notes[i:] {
		n.place = i + at
	}
	for ; i < len(e.notes) && e.look(i); i++ {
	}
}

// look finds what the i-th one and those below bear, and tells whether that has changed; if not, it has not for those above either.
func (e *elements) look(i int) bool {
	n := e.notes[i]
	var last [marks]*note
	if i > 0 {
		last = e.notes[i-1].last
	}
	for mark, own := range n.bears {
		if own {
			last[mark] = n
		}
	}
	changed := last != n.last
	n.last = last
	return changed
}

// bears tells whether x is one that is looked for by such a mark.
func bears(x open.Item[int], mark int) bool {
	switch mark {
	case open.Lists:
		return names.Bound(x.NS, x.Name) || isOf(x, "ol", "ul")
	case open.Buttons:
		return names.Bound(x.NS, x.Name) || isOf(x, "button")
	case open.Tables:
		return isOf(x, "html", "table", "template")
	case plain:
		return x.NS == api.HTML
	case special:
		return names.Special(x.NS, x.Name)
	case wall:
		return names.Special(x.NS, x.Name) && !isOf(x, "address", "div", "p")
	}
	return names.Bound(x.NS, x.Name)
}

// mark tells the place of the last one that bears a mark; -1 of none.
func (e *elements) mark(mark int) int {
	e.settle()
	if len(e.notes) == 0 {
		return -1
	}
	return placeOf(e.notes[len(e.notes)-1].last[mark])
}

// place tells the place of the last one of that namespace and name; -1 of none.
func (e *elements) place(ns int, name string) int {
	e.settle()
	l := e.kinds[kind{ns, name}]
	if len(l) == 0 {
		return -1
	}
	return l[len(l)-1].place
}

// last tells the place of the last one of one of these names; -1 of none.
func (e *elements) last(list ...string) int {
	found := -1
	for _, name := range list {
		found = max(found, e.place(api.HTML, name))
	}
	return found
}

// Has tells whether an element of that name is open.
func (e *elements) Has(name string) bool { return e.last(name) >= 0 }

// Scope tells whether one of these names is in that scope.
func (e *elements) Scope(scope int, list ...string) bool {
	i := e.last(list...)
	return i >= 0 && i >= e.mark(scope)
}

// hasInScope tells whether the element h itself is in scope.
func (e *elements) hasInScope(h int) bool {
	i := e.Place(h)
	return i >= 0 && i >= e.mark(open.Any)
}

// isIn tells whether the current one is of one of these names.
func (e *elements) isIn(list ...string) bool {
	x, _ := e.Top()
	return isOf(x, list...)
}

// close closes the last one of these names, and ahead of that whatever is implied above it, but what is of the name but.
func (e *elements) close(but string, list ...string) {
	e.Imply(but)
	e.Until(list...)
}

// cut pops, until n are left.
func (e *elements) cut(n int) {
	for e.Len() > n {
		e.Pop()
	}
}
