package arena

import (
	"arbour/api"
	"arbour/stack"
)

// Append makes n the last kid of parent.
func (a *Arena) Append(parent, n int) api.Errno {
	switch {
	case !a.has(parent) || !a.has(n):
		return api.ErrNone
	case !a.mayHaveKids(parent) || a.isFixed(n):
		return api.ErrKind
	case a.nodes[n].parent != none:
		return api.ErrTaken
	case a.isWithin(parent, n):
		return api.ErrLoop
	}
	a.link(parent, none, n)
	return api.OK
}

// Before puts n right ahead of ref.
func (a *Arena) Before(ref, n int) api.Errno {
	switch {
	case !a.has(ref) || !a.has(n):
		return api.ErrNone
	case !a.mayFollow(ref) || a.isFixed(n):
		return api.ErrKind
	case a.nodes[n].parent != none:
		return api.ErrTaken
	case a.isWithin(ref, n):
		return api.ErrLoop
	}
	a.link(a.nodes[ref].parent, ref, n)
	return api.OK
}

// Detach takes n away from its parent.
func (a *Arena) Detach(n int) api.Errno {
	switch {
	case !a.has(n):
		return api.ErrNone
	case a.isFixed(n):
		return api.ErrKind
	}
	if a.nodes[n].parent != none {
		a.unlink(n)
	}
	return api.OK
}

// Move makes all kids of from, but a Content, the last ones of to.
func (a *Arena) Move(from, to int) api.Errno {
	switch {
	case !a.has(from) || !a.has(to):
		return api.ErrNone
	case !a.mayHaveKids(from) || !a.mayHaveKids(to):
		return api.ErrKind
	case a.isWithin(to, from):
		return api.ErrLoop
	}
	for _, kid := range a.Kids(from) {
		if !a.isFixed(kid) {
			a.unlink(kid)
			a.link(to, none, kid)
		}
	}
	return api.OK
}

func (a *Arena) mayHaveKids(n int) bool {
	switch a.nodes[n].kind {
	case api.Document, api.Element, api.Content:
		return true
	}
	return false
}

// isFixed tells whether n stays where it was made.
func (a *Arena) isFixed(n int) bool {
	kind := a.nodes[n].kind
	return kind == api.Document || kind == api.Content
}

// mayFollow tells whether something may be put right ahead of n.
func (a *Arena) mayFollow(n int) bool { return !a.isFixed(n) && a.nodes[n].parent != none }

// isWithin tells whether n is top or below it. It goes up from n, and counts a node below top for each step: n stands no more steps below top than there are such nodes. So the shorter way ends it, and neither to hang a small tree far down nor to hang a great one under a new node takes long.
func (a *Arena) isWithin(n, top int) bool {
	left := stack.New[int]()
	push(left, a.nodes[top].first)
	for n != top {
		n = a.nodes[n].parent
		counted, ok := left.Pop()
		if n == none || !ok {
			return false
		}
		push(left, a.nodes[counted].behind)
		push(left, a.nodes[counted].first)
	}
	return true
}

// push puts n on the pile, if it is a node.
func push(pile *stack.Stack[int], n int) {
	if n != none {
		pile.Push(n)
	}
}

// aheadOf tells which kid of parent stands right ahead of ref, or at the end if ref is none.
func (a *Arena) aheadOf(parent, ref int) int {
	if ref == none {
		return a.nodes[parent].last
	}
	return a.nodes[ref].ahead
}

// link makes n, which has no parent, the kid of parent right ahead of ref, or the last one if ref is none.
func (a *Arena) link(parent, ref, n int) {
	ahead := a.aheadOf(parent, ref)
	a.nodes[n].parent = parent
	a.join(parent, ahead, n)
	a.join(parent, n, ref)
}

// unlink takes n, which has a parent, away from it.
func (a *Arena) unlink(n int) {
	x := &a.nodes[n]
	a.join(x.parent, x.ahead, x.behind)
	x.parent, x.ahead, x.behind = none, none, none
}

// join lets one kid of parent stand right ahead of another; none ahead is its beginning, none behind its end.
func (a *Arena) join(parent, ahead, behind int) {
	if ahead == none {
		a.nodes[parent].first = behind
	} else {
		a.nodes[ahead].behind = behind
	}
	if behind == none {
		a.nodes[parent].last = ahead
	} else {
		a.nodes[behind].ahead = ahead
	}
}
