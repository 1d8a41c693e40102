package tree

import (
	"arbour/api"
	"arbour/stack"
)

// place is a node that the walk is below of, and which of its kids comes next.
type place struct {
	parent *api.Tree
	next   int
}

// walk goes through a tree in order, by a pile: calls within calls would run out of room in a deep one.
type walk struct {
	way *stack.Stack[place]
	// A list of kids can hold itself. That is no tree, and the walk would go down it for ever: it ends where it comes to a node that it is below of.
	entered map[*api.Tree]struct{}
	endless bool
}

// begin makes a walk that t itself comes first in.
func begin(t api.Tree) *walk {
	w := &walk{way: stack.New[place](), entered: map[*api.Tree]struct{}{}}
	w.enter(&api.Tree{Kids: []api.Tree{t}})
	return w
}

// next tells the next node, to be read alone, and how many steps it stands below the first one; false behind the last.
func (w *walk) next() (*api.Tree, int, bool) {
	for at, ok := w.way.Pop(); ok; at, ok = w.way.Pop() {
		if at.next == len(at.parent.Kids) {
			delete(w.entered, at.parent)
			continue
		}
		steps := w.way.Len()
		w.way.Push(place{parent: at.parent, next: at.next + 1})
		n := &at.parent.Kids[at.next]
		w.enter(n)
		return n, steps, true
	}
	return nil, 0, false
}

// enter lets the kids of n come next.
func (w *walk) enter(n *api.Tree) {
	if len(n.Kids) == 0 {
		return
	}
	if _, again := w.entered[n]; again {
		w.endless = true
		w.way = stack.New[place]()
		return
	}
	w.entered[n] = struct{}{}
	w.way.Push(place{parent: n})
}
