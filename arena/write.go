package arena

import (
	"arbour/api"
	"arbour/attrs"
)

// Write puts s at the end of parent.
func (a *Arena) Write(parent int, s string) api.Errno {
	switch {
	case !a.has(parent):
		return api.ErrNone
	case !a.mayHaveKids(parent):
		return api.ErrKind
	}
	a.put(parent, none, s)
	return api.OK
}

// WriteBefore puts s right ahead of ref.
func (a *Arena) WriteBefore(ref int, s string) api.Errno {
	switch {
	case !a.has(ref):
		return api.ErrNone
	case !a.mayFollow(ref):
		return api.ErrKind
	}
	a.put(a.nodes[ref].parent, ref, s)
	return api.OK
}

// put writes s right ahead of ref, or at the end of parent if ref is none. A Text that stands there goes on.
func (a *Arena) put(parent, ref int, s string) {
	if s == "" || a.nodes[parent].kind == api.Document {
		return
	}
	at := a.aheadOf(parent, ref)
	if at == none || a.nodes[at].kind != api.TextNode {
		at = a.add(node{kind: api.TextNode})
		a.link(parent, ref, at)
	}
	a.nodes[at].text = append(a.nodes[at].text, s...)
}

// More gives n those attributes of l whose names it has not.
func (a *Arena) More(n int, l []api.Attr) api.Errno {
	switch {
	case !a.has(n):
		return api.ErrNone
	case a.nodes[n].kind != api.Element:
		return api.ErrKind
	}
	x := &a.nodes[n]
	x.keepNames()
	for _, one := range attrs.Unique(l) {
		if _, there := x.names[one.Name]; !there {
			x.names[one.Name] = struct{}{}
			x.attrs = append(x.attrs, one)
		}
	}
	return api.OK
}

// keepNames gathers the names of the attributes, unless that is done.
func (x *node) keepNames() {
	if x.names != nil {
		return
	}
	x.names = make(map[string]struct{}, len(x.attrs))
	for _, one := range x.attrs {
		x.names[one.Name] = struct{}{}
	}
}
