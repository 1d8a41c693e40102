package context

import (
	"slices"
	"strconv"
	"strings"
	"testing"

	"arbour/api"
	"arbour/open"
)

// none is a namespace that is none.
const none = api.SVG + 1

// thing reads "td" of HTML, "~td" of SVG and "?td" of a namespace that is none; _ is an empty name.
func thing(s string) (int, string) {
	ns, name := api.HTML, s
	switch s[0] {
	case '~':
		ns, name = api.SVG, s[1:]
	case '?':
		ns, name = none, s[1:]
	}
	if name == "_" {
		name = ""
	}
	return ns, name
}

// part is a context as thing reads it, with attributes; nil of nothing.
func part(s string) *api.Context {
	if s == "" {
		return nil
	}
	ns, name := thing(s)
	return &api.Context{NS: ns, Name: name, Attrs: spared("color=1 size=2")}
}

// list reads "x=1 y=2".
func list(s string) []api.Attr {
	var l []api.Attr
	for _, one := range strings.Fields(s) {
		name, value, _ := strings.Cut(one, "=")
		l = append(l, api.Attr{Name: name, Value: value})
	}
	return l
}

// spared is a list with something in the room behind its end.
func spared(s string) []api.Attr {
	l := list(s + " spare=1 spare=2")
	return l[:len(l)-2]
}

// whole tells all that a list has room for, its spare room, too.
func whole(l []api.Attr) []api.Attr { return slices.Clone(l[:cap(l)]) }

// label is the handle that stands for h among texts.
func label(h int) string { return "h" + strconv.Itoa(h) }

// pair is a list with ints as handles and one with texts: the same is asked of both, and both must tell the same and stay as they are.
type pair struct {
	t     *testing.T
	ints  *open.List[int]
	texts *open.List[string]
}

// made is a pair of lists that thing reads, the first the bottom.
func made(t *testing.T, s string) pair {
	p := pair{t, open.New[int](), open.New[string]()}
	for i, one := range strings.Fields(s) {
		ns, name := thing(one)
		p.ints.Push(open.Item[int]{H: i + 1, NS: ns, Name: name, Attrs: spared("x=1")})
		p.texts.Push(open.Item[string]{H: label(i + 1), NS: ns, Name: name, Attrs: spared("x=1")})
	}
	return p
}

// all tells what a list holds, with the spare room of its attributes.
func all[H comparable](l *open.List[H]) []open.Item[H] {
	var items []open.Item[H]
	for i := range l.Len() {
		x, _ := l.At(i)
		x.Attrs = whole(x.Attrs)
		items = append(items, x)
	}
	return items
}

func sameItems[H comparable](a, b []open.Item[H]) bool {
	return slices.EqualFunc(a, b, func(x, y open.Item[H]) bool {
		return x.H == y.H && x.NS == y.NS && x.Name == y.Name && slices.Equal(x.Attrs, y.Attrs)
	})
}

// stays makes a function that asks whether the lists and the context still are what they are now.
func (p pair) stays(said string, c *api.Context) func() {
	ints, texts := all(p.ints), all(p.texts)
	var was api.Context
	if c != nil {
		was = *c
		was.Attrs = whole(c.Attrs)
	}
	return func() {
		p.t.Helper()
		if !sameItems(ints, all(p.ints)) || !sameItems(texts, all(p.texts)) {
			p.t.Errorf("%s: the list was changed", said)
		}
		if c != nil && (c.NS != was.NS || c.Name != was.Name || !slices.Equal(whole(c.Attrs), was.Attrs)) {
			p.t.Errorf("%s: the context was changed", said)
		}
	}
}

// agree asks whether both lists told the same.
func agree[T comparable](p pair, said string, a, b T) T {
	p.t.Helper()
	if a != b {
		p.t.Errorf("%s: %v with ints, %v with texts", said, a, b)
	}
	return a
}

func (p pair) reset(said string, c *api.Context, template int, head bool) int {
	p.t.Helper()
	defer p.stays(said, c)()
	return agree(p, said, Reset(p.ints, c, template, head), Reset(p.texts, c, template, head))
}

// current tells what Adjusted and Foreign tell, as "~td".
func (p pair) current(said string, c *api.Context) string {
	p.t.Helper()
	defer p.stays(said, c)()
	ns, name := Adjusted(p.ints, c)
	n2, name2 := Adjusted(p.texts, c)
	agree(p, said, ns, n2)
	agree(p, said, name, name2)
	if f := agree(p, said, Foreign(p.ints, c), Foreign(p.texts, c)); f != (ns == api.SVG) {
		p.t.Errorf("%s: Foreign: %v of %d", said, f, ns)
	}
	return spelt(ns, name)
}

// spelt is the other way round of thing; empty of nothing.
func spelt(ns int, name string) string {
	if ns == 0 && name == "" {
		return ""
	}
	if name == "" {
		name = "_"
	}
	switch ns {
	case api.HTML:
		return name
	case api.SVG:
		return "~" + name
	case none:
		return "?" + name
	}
	return strconv.Itoa(ns) + ":" + name
}

// mode tells a mode by its name, or by its number where it has none.
func mode(m int) string {
	if m >= Initial && m <= AfterAfterBody {
		return strings.Fields(modes)[m-1]
	}
	return strconv.Itoa(m)
}

func mustBe[T comparable](t *testing.T, said string, got, want T) {
	t.Helper()
	if got != want {
		t.Errorf("%s: %v, want %v", said, got, want)
	}
}
