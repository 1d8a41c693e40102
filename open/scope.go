package open

import (
	"arbour/api"
	"arbour/names"
)

// Kinds of scopes, which differ in what bounds them.
const (
	Any = 1 + iota
	Lists
	Buttons
	Tables
)

// Scope tells whether an element of one of these names is open and nothing above it bounds; false of another kind.
func (l *List[H]) Scope(kind int, list ...string) bool {
	if kind < Any || kind > Tables {
		return false
	}
	for i := l.Len() - 1; i >= 0; i-- {
		x, _ := l.items.At(i)
		// This comes first, because what is asked for may be what bounds.
		if x.isOf(list) {
			return true
		}
		if bounds(kind, x.NS, x.Name) {
			return false
		}
	}
	return false
}

// bounds tells whether a scope of that kind ends at such an element.
func bounds(kind, ns int, name string) bool {
	switch kind {
	case Lists:
		return names.Bound(ns, name) || ns == api.HTML && (name == "ol" || name == "ul")
	case Buttons:
		return names.Bound(ns, name) || ns == api.HTML && name == "button"
	case Tables:
		return ns == api.HTML && (name == "html" || name == "table" || name == "template")
	}
	return names.Bound(ns, name)
}

// Until Pops up to and with one that is of one of these names, all if there is none, and tells how many were popped.
func (l *List[H]) Until(list ...string) int {
	n := 0
	for {
		x, ok := l.items.Pop()
		if !ok {
			return n
		}
		n++
		if x.isOf(list) {
			return n
		}
	}
}

// Imply Pops those whose end may be left out, down to one of the name but.
func (l *List[H]) Imply(but string) {
	l.popWhile(func(x *Item[H]) bool { return x.NS == api.HTML && x.Name != but && names.Implied(x.Name) })
}

// Thorough Pops those whose end may be left out, parts of tables included.
func (l *List[H]) Thorough() {
	l.popWhile(func(x *Item[H]) bool { return x.NS == api.HTML && names.Thorough(x.Name) })
}

// Clear Pops down to one of these names, an html or a template, which stays.
func (l *List[H]) Clear(list ...string) {
	l.popWhile(func(x *Item[H]) bool { return !x.isOf(list) && !x.is("html") && !x.is("template") })
}

// popWhile Pops, as long as there is a current one and goes holds of it.
func (l *List[H]) popWhile(goes func(*Item[H]) bool) {
	for {
		x, ok := l.items.Top()
		if !ok || !goes(x) {
			return
		}
		l.items.Pop()
	}
}
