package scribe

import (
	"bytes"
	"slices"
	"strings"
	"testing"
	"unsafe"

	"arbour/api"
	"arbour/op"
	"arbour/replay"
	"arbour/token"
)

// scene has all that is kept from token to token, and is answered later: formatting that goes on, a head, a form, text that waits, a template.
const scene = `!html <html,a=1 <head,b=2 <title,c=3 "x </title </head <style "y </style <body,d=4 <form,e=5 <p,f=6 <b,g=7,h=8 <i,viewbox=9 "z <p "w <svg,viewbox=1,j=2 <g,k=3 </svg <table,l=4 "v <tr,m=5 <td,n=6 <template,o=7 "u </template </table </i </form </b <body,p=8 <html,q=9 <nobr,r=1 <div,s=2 <nobr,t=3 <a,u=4 <p,v=5 <a,w=6 -c <div "t .`

// roomy is l with spare room behind each list of attributes.
func roomy(l []api.Token) []api.Token {
	all := slices.Clone(l)
	for i, x := range all {
		if len(x.Attrs) > 0 {
			all[i].Attrs = append(slices.Clone(x.Attrs), attrsOf("spare=s spare=s")...)[:len(x.Attrs)]
		}
	}
	return all
}

// withRoom is what stands in a list and in its spare room.
func withRoom(l []api.Attr) []api.Attr { return slices.Clone(l[:cap(l)]) }

// turn turns all of a list, its spare room, too.
func turn(l []api.Attr) {
	for i := range l[:cap(l)] {
		l[:cap(l)][i] = api.Attr{Name: "turned", Value: "turned"}
	}
}

// sceneShown is the tree of the scene.
func sceneShown(t *testing.T) string {
	t.Helper()
	return fed(t, false, nil, tokens(scene))
}

func TestTokensStay(t *testing.T) {
	l := roomy(tokens(scene))
	s := New(false)
	for _, x := range l {
		was, deep := x, withRoom(x.Attrs)
		s.Feed(x)
		if !token.Same(x, was) || !slices.Equal(withRoom(x.Attrs), deep) {
			t.Errorf("%s was %s", token.Text(x), token.Text(was))
		}
	}
}

// TestTokensThatAreTurned: a token that is turned behind its Feed is not seen in what comes later, nor in what came.
func TestTokensThatAreTurned(t *testing.T) {
	s := New(false)
	var all []api.Op
	for _, x := range roomy(tokens(scene)) {
		all = append(all, s.Feed(x)...)
		turn(x.Attrs)
	}
	if got, _ := built(t, "tokens that are turned", all); got != sceneShown(t) {
		t.Errorf("%s, want %s", got, sceneShown(t))
	}
}

// deepCopy is l in memory of its own.
func deepCopy(l []api.Op) []api.Op {
	all := slices.Clone(l)
	for i := range all {
		all[i].Attrs = slices.Clone(all[i].Attrs)
	}
	return all
}

// TestAnswersThatAreTurned: what was answered may be turned, and the Scribe goes on as before.
func TestAnswersThatAreTurned(t *testing.T) {
	s := New(false)
	var all []api.Op
	for _, x := range tokens(scene) {
		l := s.Feed(x)
		all = append(all, deepCopy(l)...)
		for i := range l {
			turn(l[i].Attrs)
		}
		for i := range l[:cap(l)] {
			l[:cap(l)][i] = api.Op{Kind: api.Make, Name: "turned", Attrs: attrsOf("turned")}
		}
	}
	if got, _ := built(t, "answers that are turned", all); got != sceneShown(t) {
		t.Errorf("%s, want %s", got, sceneShown(t))
	}
}

// TestListsOfOneAnswer share no memory: to turn one is not seen in another.
func TestListsOfOneAnswer(t *testing.T) {
	l := Parse([]byte("<p><b a=1><i b=2><u viewbox=3>x<p>y<p>z</b>w<div>v</i><svg viewbox=1><html q=1><body r=2>"), false)
	for i := range l {
		was := deepCopy(l)
		turn(l[i].Attrs)
		for j := range l {
			if j != i && !op.Same(l[j], was[j]) {
				t.Errorf("the attributes of %d are those of %d, too", i, j)
			}
		}
		l = was
	}
}

func TestContextsStay(t *testing.T) {
	for _, s := range []string{"td", "template", "form", "~title", "html"} {
		c := part(s)
		c.Attrs = append(attrsOf("a=1 b=2"), attrsOf("spare=s")...)[:2]
		was := withRoom(c.Attrs)
		Fragment([]byte("<p>x</td><form></template>"), false, *c)
		p, _ := Part(false, *c)
		if c.Name != part(s).Name || c.NS != part(s).NS || !slices.Equal(withRoom(c.Attrs), was) {
			t.Errorf("%s has become %v", s, c)
		}
		turn(c.Attrs)
		got := replay.New()
		for _, x := range tokens(`"x <p </p </table <template <td </template <form "y .`) {
			for _, o := range p.Feed(x) {
				if why := got.Do(o); why != api.OK {
					t.Fatalf("%s: %v", s, why)
				}
			}
		}
		if want := fed(t, false, part(s), tokens(`"x <p </p </table <template <td </template <form "y .`)); shown(got.Arena()) != want {
			t.Errorf("%s: %s, want %s", s, shown(got.Arena()), want)
		}
	}
}

func TestBytesStay(t *testing.T) {
	b := append([]byte("<!doctype html>\r\n<p a=1>&lt;\x00<b>x<table>y"), "spare"...)
	was := slices.Clone(b)
	page := b[:len(b)-len("spare")]
	l := Parse(page, false)
	m, _ := Fragment(page, false, *part("div"))
	if !bytes.Equal(b, was) {
		t.Errorf("%q has become %q", was, b)
	}
	one, _ := built(t, "a page", l)
	two, _ := built(t, "a fragment", m)
	for i := range b {
		b[i] = '#'
	}
	again, _ := built(t, "a page whose bytes are turned", l)
	more, _ := built(t, "a fragment whose bytes are turned", m)
	if again != one || more != two {
		t.Errorf("%s, %s, were %s, %s", again, more, one, two)
	}
}

// TestTextsAreOwn: no text that is answered lies in a token's, so that a token that was cut from a page does not keep it.
func TestTextsAreOwn(t *testing.T) {
	inside := func(s, whole string) bool {
		if s == "" || whole == "" {
			return false
		}
		at, from := uintptr(unsafe.Pointer(unsafe.StringData(s))), uintptr(unsafe.Pointer(unsafe.StringData(whole)))
		return at >= from && at < from+uintptr(len(whole))
	}
	for _, c := range []*api.Context{nil, part("div"), part("~g")} {
		var texts []string
		s := engine(t, false, c)
		for _, x := range tokens(scene) {
			texts = append(texts, x.Name, x.Text)
			for _, a := range x.Attrs {
				texts = append(texts, a.Name, a.Value)
			}
			for _, o := range s.Feed(x) {
				said := []string{o.Name, o.Text}
				for _, a := range o.Attrs {
					said = append(said, a.Name, a.Value)
				}
				for _, one := range said {
					if slices.ContainsFunc(texts, func(whole string) bool { return inside(one, whole) }) {
						t.Errorf("%s: %q is the token's", token.Text(x), one)
					}
				}
			}
		}
	}
}

func TestNilAndEmpty(t *testing.T) {
	empty := tokens(scene)
	for i, x := range empty {
		if x.Attrs == nil {
			empty[i].Attrs = []api.Attr{}
		}
	}
	if got := fed(t, false, nil, empty); got != sceneShown(t) {
		t.Errorf("%s, want %s", got, sceneShown(t))
	}
	one, _ := built(t, "nil", Parse(nil, false))
	two, _ := built(t, "empty", Parse([]byte{}, false))
	if one != two || one != "html(head()body())" {
		t.Errorf("%s, %s", one, two)
	}
	for _, b := range [][]byte{nil, {}} {
		for _, l := range [][]api.Attr{nil, {}} {
			m, why := Fragment(b, false, api.Context{NS: api.HTML, Name: "p", Attrs: l})
			if got, _ := built(t, "a fragment", m); got != "html()" || why != api.OK {
				t.Errorf("%s, %v", got, why)
			}
		}
	}
}

// TestScribesAreApart: what one is fed is not seen in another, and the same is always answered the same.
func TestScribesAreApart(t *testing.T) {
	l := tokens(scene)
	one, two, three := newPlayer(t, false, nil), newPlayer(t, true, part("table")), newPlayer(t, false, nil)
	for _, x := range l {
		one.feed("one", x)
		two.feed("two", x)
		Parse([]byte("<p><b>x"), false)
	}
	for _, x := range l {
		three.feed("three", x)
	}
	if one.shown() != three.shown() || one.shown() != sceneShown(t) {
		t.Errorf("%s, %s", one.shown(), three.shown())
	}
	if want := fed(t, true, part("table"), l); two.shown() != want {
		t.Errorf("%s, want %s", two.shown(), want)
	}
	page := []byte(strings.Repeat("<b a=1><p>x</b><table>y<svg viewbox=2><p>", 9))
	first := Parse(page, false)
	for range 5 {
		if again := Parse(page, false); !slices.EqualFunc(first, again, op.Same) {
			t.Errorf("%v, was %v", again, first)
		}
	}
}
