package mason

import (
	"strings"
	"testing"

	"arbour/api"
	"arbour/arena"
	"arbour/tree"
)

// mustBeTree asks that Tree of a, part or not, is a Document with what want shows below it.
func mustBeTree(t *testing.T, said string, a *arena.Arena, part bool, want string) {
	t.Helper()
	got := Tree(a, part)
	if show(got) != want {
		t.Errorf("%s, part %v: %s, want %s", said, part, show(got), want)
	}
	top := got
	top.Kids = nil
	if !tree.Same(top, api.Tree{Kind: api.Document}) {
		t.Errorf("%s, part %v: the top is %+v", said, part, top)
	}
}

func TestTree(t *testing.T) {
	for _, c := range []struct{ in, whole, part string }{
		{``, `html(head()body())`, `head()body()`},
		{`<!--c--><!doctype html><html a=1><head b=2><p>x`, `!c!?html?html.a=1(head.b=2()body(p('x')))`, `head.b=2()body(p('x'))`},
		{`<template><td>x</template><svg viewbox=1><g/></svg></html><!--c-->`, `html(head(template({td('x')}))body(~svg.viewBox=1(~g())))!c!`, `head(template({td('x')}))body(~svg.viewBox=1(~g()))`},
	} {
		a := Parse([]byte(c.in), false)
		mustBeTree(t, c.in, a, false, c.whole)
		mustBeTree(t, c.in, a, true, c.part)
		if pure, _ := a.Pure(0); !tree.Same(Tree(a, false), pure) {
			t.Errorf("%s: not what Pure tells", c.in)
		}
	}
	for _, c := range []struct{ in, where, whole, part string }{
		{``, `div`, `html()`, ``},
		{`<p>x<!--c-->`, `div`, `html(p('x'!c!))`, `p('x'!c!)`},
		{`x<html a=1>`, `div`, `html.a=1('x')`, `'x'`},
		{`<td>x</body><!--c--></html><!--d-->`, `tr`, `html(td('x'!c!!d!))`, `td('x'!c!!d!)`},
		{`<!--c--><body></html><!--d-->`, `html`, `html(!c!head()body()!d!)`, `!c!head()body()!d!`},
		{`<template>x`, `template`, `html(template({'x'}))`, `template({'x'})`},
		{`<g/>x`, `~svg`, `html(~g()'x')`, `~g()'x'`},
	} {
		a, why := Fragment([]byte(c.in), false, *part(c.where))
		if why != api.OK {
			t.Fatalf("%s in %s: %v", c.in, c.where, why)
		}
		mustBeTree(t, c.in+" in "+c.where, a, false, c.whole)
		mustBeTree(t, c.in+" in "+c.where, a, true, c.part)
	}
}

func TestTreeOfNone(t *testing.T) {
	for _, part := range []bool{false, true} {
		mustBeTree(t, "nil", nil, part, "")
		mustBeTree(t, "an arena of nothing", arena.New(), part, "")
	}
}

// TestTreesSoFar: what has been built so far can be told, behind each Feed.
func TestTreesSoFar(t *testing.T) {
	m, p := New(false), engine(t, false, part("div"))
	mustBeTree(t, "nothing yet", m.Arena(), false, "")
	mustBeTree(t, "nothing yet", m.Arena(), true, "")
	mustBeTree(t, "nothing yet", p.Arena(), false, "html()")
	mustBeTree(t, "nothing yet", p.Arena(), true, "")
	m.Feed(comment("c"))
	p.Feed(comment("c"))
	mustBeTree(t, "a comment", m.Arena(), false, "!c!")
	mustBeTree(t, "a comment", m.Arena(), true, "")
	mustBeTree(t, "a comment", p.Arena(), true, "!c!")
	m.Feed(start("p"))
	mustBeTree(t, "a p", m.Arena(), true, "head()body(p())")
}

// made is an arena that was made elsewhere: its kids are told by their kinds, E an Element, T a template, S one of SVG, C a Comment, D a Doctype, each but the last two with a text in it; all but the first so many hang nowhere.
func made(t *testing.T, kinds string, hang int) *arena.Arena {
	t.Helper()
	a := arena.New()
	for i, k := range kinds {
		var n int
		var why api.Errno
		switch k {
		case 'E':
			n, why = a.Make(api.Element, api.HTML, "e", nil, "")
		case 'T':
			n, why = a.Make(api.Element, api.HTML, "template", attrsOf("a=1"), "")
		case 'S':
			n, why = a.Make(api.Element, api.SVG, "html", nil, "")
		case 'C':
			n, why = a.Make(api.CommentNode, 0, "", nil, "c")
		case 'D':
			n, why = a.Make(api.DoctypeNode, 0, "html", nil, "")
		}
		if strings.ContainsRune("EST", k) {
			a.Write(n, "x")
		}
		if content, ok := a.Content(n); ok {
			a.Write(content, "y")
		}
		if i < hang && why == api.OK {
			why = a.Append(0, n)
		}
		if why != api.OK {
			t.Fatalf("%s: %v", kinds, why)
		}
	}
	return a
}

// TestTreeOfArenasMadeElsewhere: what counts is the Document's first Element, whatever it is of.
func TestTreeOfArenasMadeElsewhere(t *testing.T) {
	for _, c := range []struct {
		kinds       string
		hang        int
		whole, part string
	}{
		{"E", 1, "e('x')", "'x'"}, {"E", 0, "", ""}, {"C", 1, "!c!", ""}, {"D", 1, "?html?", ""}, {"DC", 2, "?html?!c!", ""}, {"CE", 2, "!c!e('x')", "'x'"}, {"DCEC", 4, "?html?!c!e('x')!c!", "'x'"},
		{"SE", 2, "~html('x')e('x')", "'x'"}, {"CEE", 1, "!c!", ""}, {"ES", 1, "e('x')", "'x'"}, {"CE", 1, "!c!", ""},
	} {
		a := made(t, c.kinds, c.hang)
		mustBeTree(t, c.kinds, a, false, c.whole)
		mustBeTree(t, c.kinds, a, true, c.part)
		a.Quirks(true)
		mustBeTree(t, c.kinds, a, true, c.part)
	}
}

// TestTreeOfSeveralElements: of the first one the kids are told, whatever it is, and no other one's.
func TestTreeOfSeveralElements(t *testing.T) {
	a := arena.New()
	for _, name := range []string{"q", "html", "body"} {
		n, _ := a.Make(api.Element, api.HTML, name, nil, "")
		k, _ := a.Make(api.Element, api.HTML, "in"+name, nil, "")
		a.Append(0, n)
		a.Append(n, k)
	}
	mustBeTree(t, "several", a, false, "q(inq())html(inhtml())body(inbody())")
	mustBeTree(t, "several", a, true, "inq()")
	a.Detach(a.Kids(0)[0])
	mustBeTree(t, "without the first", a, true, "inhtml()")
}

// TestTreeOfATemplate: its Content is a kid of it, as Pure has it.
func TestTreeOfATemplate(t *testing.T) {
	a := made(t, "TE", 2)
	x, _ := a.Pure(a.Kids(0)[0])
	if got := Tree(a, true); len(got.Kids) != len(x.Kids) || show(got) != show(x) {
		t.Errorf("%s, want %s", show(got), show(x))
	}
}

// TestTreeIsByItself: it may be turned, and what is fed later is not seen in it.
func TestTreeIsByItself(t *testing.T) {
	for _, where := range []*api.Context{nil, part("div")} {
		m := engine(t, false, where)
		for _, x := range tokens(`<div,a=1,b=2 "x <template,c=3 <p`) {
			m.Feed(x)
		}
		for _, part := range []bool{false, true} {
			first, again := Tree(m.Arena(), part), Tree(m.Arena(), part)
			turnTree(&first)
			if !tree.Same(again, Tree(m.Arena(), part)) || strings.Contains(show(Tree(m.Arena(), part)), "turned") {
				t.Errorf("%s, part %v", show(Tree(m.Arena(), part)), part)
			}
			kept := tree.Copy(again)
			m.Feed(text("y"))
			m.Feed(start("q"))
			if !tree.Same(again, kept) {
				t.Errorf("%s, was %s", show(again), show(kept))
			}
		}
	}
}

// turnTree turns all of a tree, its spare room, too.
func turnTree(t *api.Tree) {
	for i := range t.Kids[:cap(t.Kids)] {
		if i < len(t.Kids) {
			turnTree(&t.Kids[i])
		}
	}
	turn(t.Attrs)
	for i := range t.Kids[:cap(t.Kids)] {
		t.Kids[:cap(t.Kids)][i] = api.Tree{Kind: api.TextNode, Text: "turned"}
	}
	t.Name, t.Text = "turned", "turned"
}

// turn turns all of a list, its spare room, too.
func turn(l []api.Attr) {
	for i := range l[:cap(l)] {
		l[:cap(l)][i] = api.Attr{Name: "turned", Value: "turned"}
	}
}
