package scribe

import (
	"slices"

	"arbour/api"
	"arbour/chars"
	"arbour/names"
	"arbour/open"
)

// kind is what elements are counted by: Ends mean those of SVG by names in small letters.
type kind struct {
	ns   int
	name string
}

// note is what is kept ready of an open element.
type note struct {
	kind  kind
	reach bool // is a p in button scope from here on?
}

// elements are the open ones. Most tokens ask for elements that are mostly not open: to go through all that are takes time as the square of the depth, so they are counted.
type elements struct {
	*open.List[int]
	notes  []note // of those that have been popped since, too, until settle
	counts map[kind]int
}

func newElements() *elements {
	return &elements{List: open.New[int](), counts: map[kind]int{}}
}

// kindOf tells what x is counted by.
func kindOf(x open.Item[int]) kind {
	if x.NS == api.HTML {
		return kind{x.NS, x.Name}
	}
	return kind{x.NS, chars.Lower(x.Name)}
}

// isOf tells whether x is of one of these names, which elements of HTML alone can be.
func isOf(x open.Item[int], list ...string) bool {
	return x.NS == api.HTML && slices.Contains(list, x.Name)
}

// Push makes x the current one.
func (e *elements) Push(x open.Item[int]) {
	e.settle(e.Len())
	e.List.Push(x)
	e.learn()
}

// Remove takes h away, wherever it is.
func (e *elements) Remove(h int) {
	if i := e.Place(h); i >= 0 {
		e.settle(i)
		e.List.Remove(h)
		e.learn()
	}
}

// After puts x right above h, which is open.
func (e *elements) After(h int, x open.Item[int]) {
	e.settle(e.Place(h))
	e.List.After(h, x)
	e.learn()
}

// settle forgets the notes of all places but the first n.
func (e *elements) settle(n int) {
	for i := len(e.notes) - 1; i >= n; i-- {
		e.counts[e.notes[i].kind]--
		e.notes = e.notes[:i]
	}
}

// learn makes the notes that are not there yet.
func (e *elements) learn() {
	for i := len(e.notes); i < e.Len(); i++ {
		x, _ := e.At(i)
		bounds := names.Bound(x.NS, x.Name) || isOf(x, "button")
		n := note{kind: kindOf(x), reach: isOf(x, "p") || !bounds && i > 0 && e.notes[i-1].reach}
		e.notes = append(e.notes, n)
		e.counts[n.kind]++
	}
}

// hasP tells whether a p is in button scope.
func (e *elements) hasP() bool {
	n := e.Len()
	return n > 0 && e.notes[n-1].reach
}

// hasKind tells whether one of that namespace and name is open.
func (e *elements) hasKind(ns int, name string) bool {
	e.settle(e.Len())
	return e.counts[kind{ns, name}] > 0
}

// Has tells whether an element of that name is open.
func (e *elements) Has(name string) bool { return e.hasKind(api.HTML, name) }

// Scope tells whether one of these names is in that scope.
func (e *elements) Scope(scope int, list ...string) bool {
	return slices.ContainsFunc(list, e.Has) && e.List.Scope(scope, list...)
}

// hasInScope tells whether the element h itself is in scope.
func (e *elements) hasInScope(h int) bool {
	for i := e.Len() - 1; i >= 0; i-- {
		x, _ := e.At(i)
		if x.H == h {
			return true
		}
		if names.Bound(x.NS, x.Name) {
			return false
		}
	}
	return false
}

// isIn tells whether the current one is of one of these names.
func (e *elements) isIn(list ...string) bool {
	x, _ := e.Top()
	return isOf(x, list...)
}

// last tells the place of the last one of that name; -1 of none.
func (e *elements) last(name string) int {
	if !e.Has(name) {
		return -1
	}
	for i := e.Len() - 1; i >= 0; i-- {
		if x, _ := e.At(i); isOf(x, name) {
			return i
		}
	}
	return -1
}

// special tells the place of the first Special one above a place; -1 of none.
func (e *elements) special(above int) int {
	for i := above + 1; i < e.Len(); i++ {
		if x, _ := e.At(i); names.Special(x.NS, x.Name) {
			return i
		}
	}
	return -1
}

// cut pops, until n are left.
func (e *elements) cut(n int) {
	for e.Len() > n {
		e.Pop()
	}
}
