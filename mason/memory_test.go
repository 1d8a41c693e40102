package mason

import (
	"bytes"
	"slices"
	"strings"
	"testing"
	"unsafe"

	"arbour/api"
	"arbour/token"
	"arbour/tree"
)

// scene has all that is kept from token to token: formatting that goes on, a head, a form, text that waits, a template.
const scene = `!html <html,a=1 <head,b=2 <title,c=3 "x </title </head <style "y </style <body,d=4 <form,e=5 <p,f=6 <b,g=7,h=8 <i,viewbox=9 "z <p "w <svg,viewbox=1,j=2 <g,k=3 </svg <table,l=4 "v <tr,m=5 <td,n=6 <template,o=7 "u </template </table </i </form </b <body,p=8 <html,q=9 <nobr,r=1 <div,s=2 <nobr,t=3 <a,u=4 <p,v=5 <a,w=6 -c <div "t .`

// roomy is l with spare room behind each list of attributes.
func roomy(l []api.Token) []api.Token {
	all := slices.Clone(l)
	for i, x := range all {
		if len(x.Attrs) > 0 {
			all[i].Attrs = append(slices.Clone(x.Attrs), attrsOf("spare=s spare=s")...)[:len(x.Attrs)]
		}
	}
	return all
}

// withRoom is what stands in a list and in its spare room.
func withRoom(l []api.Attr) []api.Attr { return slices.Clone(l[:cap(l)]) }

// sceneShown is the tree of the scene.
func sceneShown(t *testing.T) string {
	t.Helper()
	return fed(t, false, nil, tokens(scene))
}

func TestScene(t *testing.T) {
	mustBeByScribe(t, false, nil, tokens(scene))
	want := "?html?html.a=1.q=9(head.b=2(title.c=3('x')style('y'))body.d=4.p=8(form.e=5(p.f=6(b.g=7.h=8(i.viewbox=9('z')))p("
	if got := sceneShown(t); !strings.HasPrefix(got, want) {
		t.Errorf("%s, want %s", got, want)
	}
}

func TestTokensStay(t *testing.T) {
	l := roomy(tokens(scene))
	m := New(false)
	for _, x := range l {
		was, deep := x, withRoom(x.Attrs)
		m.Feed(x)
		if !token.Same(x, was) || !slices.Equal(withRoom(x.Attrs), deep) {
			t.Errorf("%s was %s", token.Text(x), token.Text(was))
		}
	}
	for i, x := range roomy(tokens(scene)) {
		if !token.Same(x, l[i]) || !slices.Equal(withRoom(x.Attrs), withRoom(l[i].Attrs)) {
			t.Errorf("%s has become %s", token.Text(x), token.Text(l[i]))
		}
	}
}

// TestTokensThatAreTurned: a token that is turned behind its Feed is not seen in what comes later, nor in what came.
func TestTokensThatAreTurned(t *testing.T) {
	m := New(false)
	for _, x := range roomy(tokens(scene)) {
		m.Feed(x)
		turn(x.Attrs)
	}
	if m.shown() != sceneShown(t) {
		t.Errorf("%s, want %s", m.shown(), sceneShown(t))
	}
}

// TestAnswersThatAreTurned: a tree that was told may be turned, and so may what the arena tells; the Mason goes on as before.
func TestAnswersThatAreTurned(t *testing.T) {
	m := New(false)
	for _, x := range tokens(scene) {
		m.Feed(x)
		for _, part := range []bool{false, true} {
			one := Tree(m.Arena(), part)
			turnTree(&one)
		}
		for n := range m.Arena().Len() {
			one, _ := m.Arena().Node(n)
			turn(one.Attrs)
			kids := m.Arena().Kids(n)
			for i := range kids[:cap(kids)] {
				kids[:cap(kids)][i] = 1
			}
		}
	}
	if m.shown() != sceneShown(t) {
		t.Errorf("%s, want %s", m.shown(), sceneShown(t))
	}
}

func TestContextsStay(t *testing.T) {
	const way = `"x <p </p </table <template <td </template <form "y .`
	for _, s := range []string{"td", "template", "form", "~title", "html"} {
		c := part(s)
		c.Attrs = append(attrsOf("a=1 b=2"), attrsOf("spare=s")...)[:2]
		was := withRoom(c.Attrs)
		Fragment([]byte("<p>x</td><form></template>"), false, *c)
		m := engine(t, false, c)
		if c.Name != part(s).Name || c.NS != part(s).NS || !slices.Equal(withRoom(c.Attrs), was) {
			t.Errorf("%s has become %v", s, c)
		}
		turn(c.Attrs)
		*c = api.Context{}
		for _, x := range tokens(way) {
			m.Feed(x)
		}
		if want := fed(t, false, part(s), tokens(way)); m.shown() != want {
			t.Errorf("%s: %s, want %s", s, m.shown(), want)
		}
	}
}

func TestBytesStay(t *testing.T) {
	b := append([]byte("<!doctype html>\r\n<p a=1>&lt;\x00<b>x<table>y"), "spare"...)
	was := slices.Clone(b)
	page := b[:len(b)-len("spare")]
	one := Parse(page, false)
	two, _ := Fragment(page, false, *part("div"))
	if !bytes.Equal(b, was) {
		t.Errorf("%q has become %q", was, b)
	}
	first, second := shown(one), shown(two)
	for i := range b {
		b[i] = '#'
	}
	if shown(one) != first || shown(two) != second {
		t.Errorf("%s, %s, were %s, %s", shown(one), shown(two), first, second)
	}
}

// textsOf are all texts of a tree.
func textsOf(t api.Tree) []string {
	all := []string{t.Name, t.Text}
	for _, a := range t.Attrs {
		all = append(all, a.Name, a.Value)
	}
	for _, k := range t.Kids {
		all = append(all, textsOf(k)...)
	}
	return all
}

// TestTextsAreOwn: no text of the tree lies in a token's, so that a token that was cut from a page does not keep it.
func TestTextsAreOwn(t *testing.T) {
	inside := func(s, whole string) bool {
		if s == "" || whole == "" {
			return false
		}
		at, from := uintptr(unsafe.Pointer(unsafe.StringData(s))), uintptr(unsafe.Pointer(unsafe.StringData(whole)))
		return at >= from && at < from+uintptr(len(whole))
	}
	for _, c := range []*api.Context{nil, part("div"), part("~g")} {
		var texts []string
		m := engine(t, false, c)
		for _, x := range tokens(scene) {
			texts = append(texts, x.Name, x.Text)
			for _, a := range x.Attrs {
				texts = append(texts, a.Name, a.Value)
			}
			m.Feed(x)
		}
		for _, one := range textsOf(Tree(m.Arena(), false)) {
			if slices.ContainsFunc(texts, func(whole string) bool { return inside(one, whole) }) {
				t.Errorf("%q is a token's", one)
			}
		}
		for i := range m.open.Len() {
			if x, _ := m.open.At(i); slices.ContainsFunc(texts, func(whole string) bool { return inside(x.Name, whole) }) {
				t.Errorf("the open %q is a token's", x.Name)
			}
		}
		for i := range m.active.Len() {
			x, _ := m.active.At(i)
			said := []string{x.Name}
			for _, a := range x.Attrs {
				said = append(said, a.Name, a.Value)
			}
			for _, one := range said {
				if slices.ContainsFunc(texts, func(whole string) bool { return inside(one, whole) }) {
					t.Errorf("%q of the formatting that goes on is a token's", one)
				}
			}
		}
	}
}

func TestNilAndEmpty(t *testing.T) {
	empty := tokens(scene)
	for i, x := range empty {
		if x.Attrs == nil {
			empty[i].Attrs = []api.Attr{}
		}
	}
	if got := fed(t, false, nil, empty); got != sceneShown(t) {
		t.Errorf("%s, want %s", got, sceneShown(t))
	}
	one, two := Parse(nil, false), Parse([]byte{}, false)
	if shown(one) != shown(two) || shown(one) != "quirky html(head()body())" {
		t.Errorf("%s, %s", shown(one), shown(two))
	}
	for _, b := range [][]byte{nil, {}} {
		for _, l := range [][]api.Attr{nil, {}} {
			a, why := Fragment(b, false, api.Context{NS: api.HTML, Name: "p", Attrs: l})
			if got := shown(a); got != "html()" || why != api.OK {
				t.Errorf("%s, %v", got, why)
			}
		}
	}
}

// TestMasonsAreApart: what one is fed is not seen in another, and the same always builds the same.
func TestMasonsAreApart(t *testing.T) {
	l := tokens(scene)
	one, two, three := New(false), engine(t, true, part("table")), New(false)
	for _, x := range l {
		one.Feed(x)
		two.Feed(x)
		Parse([]byte("<p><b>x"), false)
	}
	for _, x := range l {
		three.Feed(x)
	}
	if one.shown() != three.shown() || one.shown() != sceneShown(t) {
		t.Errorf("%s, %s", one.shown(), three.shown())
	}
	if want := fed(t, true, part("table"), l); two.shown() != want {
		t.Errorf("%s, want %s", two.shown(), want)
	}
	page := []byte(strings.Repeat("<b a=1><p>x</b><table>y<svg viewbox=2><p>", 9))
	first := Tree(Parse(page, false), false)
	for range 5 {
		if again := Tree(Parse(page, false), false); !tree.Same(first, again) {
			t.Errorf("%s, was %s", show(again), show(first))
		}
	}
}
