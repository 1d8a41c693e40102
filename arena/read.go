package arena

import (
	"strings"

	"arbour/api"
	"arbour/stack"
	"arbour/tree"
)

// Parent tells the parent of n; false if it has none.
func (a *Arena) Parent(n int) (int, bool) {
	if !a.has(n) || a.nodes[n].parent == none {
		return 0, false
	}
	return a.nodes[n].parent, true
}

// Kids tells the kids of n, in order.
func (a *Arena) Kids(n int) []int {
	if !a.has(n) {
		return nil
	}
	var l []int
	for kid := a.nodes[n].first; kid != none; kid = a.nodes[kid].behind {
		l = append(l, kid)
	}
	return l
}

// Content tells the Content of n; false if n is no HTML template element.
func (a *Arena) Content(n int) (int, bool) {
	if !a.has(n) || !a.isTemplate(n) {
		return 0, false
	}
	// It was made as the first kid, and nothing moves it or comes ahead of it.
	return a.nodes[n].first, true
}

// Node tells n without its kids; false of none.
func (a *Arena) Node(n int) (api.Tree, bool) {
	if !a.has(n) {
		return api.Tree{}, false
	}
	return a.bare(n), true
}

// bare tells n without its kids, in memory of the answer's own.
func (a *Arena) bare(n int) api.Tree {
	x := &a.nodes[n]
	t := api.Tree{Kind: x.kind, NS: x.ns, Name: strings.Clone(x.name), Text: string(x.text)}
	if len(x.attrs) > 0 {
		t.Attrs = make([]api.Attr, 0, len(x.attrs))
	}
	for _, at := range x.attrs {
		t.Attrs = append(t.Attrs, api.Attr{Name: strings.Clone(at.Name), Value: strings.Clone(at.Value)})
	}
	return t
}

// copied is a node of the answer, and the one that it is a copy of.
type copied struct {
	n  int
	to *api.Tree
}

// Pure tells n with all below it, by itself.
func (a *Arena) Pure(n int) (api.Tree, api.Errno) {
	if !a.has(n) {
		return api.Tree{}, api.ErrNone
	}
	top := a.bare(n)
	left := stack.New[copied]()
	left.Push(copied{n, &top})
	for at, ok := left.Pop(); ok; at, ok = left.Pop() {
		kids := a.Kids(at.n)
		if len(kids) == 0 {
			continue
		}
		at.to.Kids = make([]api.Tree, len(kids))
		for i, kid := range kids {
			at.to.Kids[i] = a.bare(kid)
			left.Push(copied{kid, &at.to.Kids[i]})
		}
	}
	return top, api.OK
}

// planned is a node that is still to be made, and its parent, which is made already.
type planned struct {
	parent int
	from   *api.Tree
}

// Of makes an arena of a tree; the nodes have their numbers in order.
func Of(t api.Tree) (*Arena, api.Errno) {
	if !tree.Right(t) {
		return nil, api.ErrForm
	}
	a := New()
	left := stack.New[planned]()
	plan(left, 0, t.Kids)
	for next, ok := left.Pop(); ok; next, ok = left.Pop() {
		n := a.add(nodeOf(next.from))
		a.link(next.parent, none, n)
		plan(left, n, next.from.Kids)
	}
	return a, api.OK
}

// plan puts the kids on the pile, so that the first one is its last.
func plan(left *stack.Stack[planned], parent int, kids []api.Tree) {
	for i := len(kids) - 1; i >= 0; i-- {
		left.Push(planned{parent, &kids[i]})
	}
}
