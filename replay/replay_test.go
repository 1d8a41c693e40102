package replay

import (
	"math"
	"slices"
	"strconv"
	"testing"

	"arbour/api"
	"arbour/arena"
	"arbour/op"
)

func el(n int, name string, l ...api.Attr) api.Op {
	return api.Op{Kind: api.Make, Node: n, Type: api.Element, NS: api.HTML, Name: name, Attrs: l}
}

func svg(n int, name string) api.Op {
	return api.Op{Kind: api.Make, Node: n, Type: api.Element, NS: api.SVG, Name: name}
}

func comment(n int, s string) api.Op {
	return api.Op{Kind: api.Make, Node: n, Type: api.CommentNode, Text: s}
}

func doctype(n int, name string) api.Op {
	return api.Op{Kind: api.Make, Node: n, Type: api.DoctypeNode, Name: name}
}

func under(parent, n int) api.Op { return api.Op{Kind: api.Append, Node: n, Parent: parent} }

func before(ref, n int) api.Op { return api.Op{Kind: api.Before, Node: n, Ref: ref} }

func foster(ref, parent, n int) api.Op {
	return api.Op{Kind: api.Foster, Node: n, Ref: ref, Parent: parent}
}

func write(parent int, s string) api.Op { return api.Op{Kind: api.Write, Parent: parent, Text: s} }

func pour(ref, parent int, s string) api.Op {
	return api.Op{Kind: api.Pour, Ref: ref, Parent: parent, Text: s}
}

func detach(n int) api.Op { return api.Op{Kind: api.Detach, Node: n} }

func move(from, to int) api.Op { return api.Op{Kind: api.Move, Ref: from, Parent: to} }

func inner(ref, n int) api.Op { return api.Op{Kind: api.Inner, Node: n, Ref: ref} }

func more(n int, l ...api.Attr) api.Op { return api.Op{Kind: api.More, Node: n, Attrs: l} }

func quirks() api.Op { return api.Op{Kind: api.Quirks} }

func attr(name, value string) api.Attr { return api.Attr{Name: name, Value: value} }

// show writes what is below t: an element's name, its attributes and, in brackets, what it holds.
func show(t api.Tree) string {
	out := ""
	for _, kid := range t.Kids {
		switch kid.Kind {
		case api.TextNode:
			out += strconv.Quote(kid.Text)
		case api.CommentNode:
			out += "!" + kid.Text + "!"
		case api.DoctypeNode:
			out += "?" + kid.Name + "?"
		case api.Content:
			out += "{" + show(kid) + "}"
		default:
			out += showElement(kid)
		}
	}
	return out
}

func showElement(t api.Tree) string {
	out := t.Name
	if t.NS == api.SVG {
		out = "svg:" + out
	}
	for _, a := range t.Attrs {
		out += " " + a.Name + "=" + a.Value
	}
	return out + "(" + show(t) + ")"
}

func shown(a *arena.Arena) string {
	x, _ := a.Pure(0)
	return show(x)
}

// The handles of the scene, far apart and not in order; none of them is the arena's own number.
const (
	hDoctype  = 90
	hP        = 70
	hTemplate = 1 << 30
	hContent  = 111
	hSecond   = 112 // of the same Content
	hInner    = 50
	hComment  = 113
	hG        = 300
	hSVG      = 114 // a template of SVG
	hLoose    = 1<<31 - 2
	hBelow    = 120
	hFree     = 65536 // a comment that hangs nowhere
	hApart    = 121   // a template that hangs nowhere
	hWithin   = 119   // its Content
	hEmpty    = 118
	stranger  = 77
)

const sceneShown = `?html?p a=1("t"template({b()"in"}"out")!c!svg:g(svg:template()))`

func sceneHandles() []int {
	return []int{0, hDoctype, hP, hTemplate, hContent, hSecond, hInner, hComment, hG, hSVG, hLoose, hBelow, hFree, hApart, hWithin, hEmpty}
}

// scene are operations that make nodes of each Type, hung and loose.
func scene() []api.Op {
	return []api.Op{
		el(hP, "p", attr("a", "1")), under(0, hP),
		doctype(hDoctype, "html"), before(hP, hDoctype),
		write(hP, "t"),
		el(hTemplate, "template"), under(hP, hTemplate), inner(hTemplate, hContent), inner(hTemplate, hSecond),
		el(hInner, "b"), under(hContent, hInner), write(hSecond, "in"), write(hTemplate, "out"),
		comment(hComment, "c"), under(hP, hComment),
		svg(hG, "g"), under(hP, hG), svg(hSVG, "template"), under(hG, hSVG),
		el(hLoose, "i"), el(hBelow, "u"), under(hLoose, hBelow),
		comment(hFree, "f"),
		el(hApart, "template"), inner(hApart, hWithin),
		el(hEmpty, "s"),
	}
}

// mustShow does the operations behind the scene, and asks for the tree.
func mustShow(t *testing.T, said, want string, more ...api.Op) {
	t.Helper()
	l := append(scene(), more...)
	a, n, why := Do(l)
	if a == nil || n != len(l) || why != api.OK || Check(l) != api.OK {
		t.Errorf("%s: %d, %v, want %d", said, n, why, len(l))
		return
	}
	if got := shown(a); got != want {
		t.Errorf("%s: %s, want %s", said, got, want)
	}
	mustDoAll(t, l)
}

// mustRefuse asks Do, Check and a Player, and that the Player goes on as if nothing had been.
func mustRefuse(t *testing.T, said string, want api.Errno, ahead []api.Op, o api.Op, behind ...api.Op) {
	t.Helper()
	l := append(append(slices.Clone(ahead), o), behind...)
	if a, n, why := Do(l); a != nil || n != len(ahead) || why != want {
		t.Errorf("%s: Do: %v, %d, %v, want %d, %v", said, a != nil, n, why, len(ahead), want)
	}
	if why := Check(l); why != want {
		t.Errorf("%s: Check: %v, want %v", said, why, want)
	}
	p, q := New(), New()
	for _, one := range ahead {
		mustTell(t, said, p.Do(one), api.OK)
		q.Do(one)
	}
	mustTell(t, said, p.Do(o), want)
	mustBeAlike(t, said, p, q)
	mustTell(t, said+", again", p.Do(o), want)
	for _, one := range behind {
		mustTell(t, said, p.Do(one), api.OK)
		q.Do(one)
	}
	mustBeAlike(t, said, p, q)
}

func mustTell(t *testing.T, said string, got, want api.Errno) {
	t.Helper()
	if got != want {
		t.Errorf("%s: %v, want %v", said, got, want)
	}
}

// mustBeAlike asks for all that can be told of two Players.
func mustBeAlike(t *testing.T, said string, p, q *Player) {
	t.Helper()
	if tell(p.Arena()) != tell(q.Arena()) {
		t.Errorf("%s: the arena is\n%s\nwant\n%s", said, tell(p.Arena()), tell(q.Arena()))
	}
	for _, h := range append(append(sceneHandles(), handles...), stranger) {
		if knows(p, h) != knows(q, h) {
			t.Errorf("%s: handle %d is known: %v", said, h, knows(p, h))
		}
	}
}

func TestRunOfTheChapter(t *testing.T) {
	a, n, why := Do([]api.Op{el(1, "p"), under(0, 1)})
	if why != api.OK || n != 2 || shown(a) != "p()" || a.Len() != 2 || a.Quirky() {
		t.Errorf("%d, %v", n, why)
	}
}

func TestExamplesOfTheChapter(t *testing.T) {
	mustRefuse(t, "Append of what was not made", api.ErrNone, nil, under(0, 1))
	for _, l := range [][]api.Op{nil, {}, make([]api.Op, 0, 3), scene()[:0]} {
		a, n, why := Do(l)
		if a == nil || n != 0 || why != api.OK || Check(l) != api.OK {
			t.Fatalf("Do of nothing: %v, %d, %v", a != nil, n, why)
		}
		if tell(a) != tell(arena.New()) {
			t.Errorf("Do of nothing: %s", tell(a))
		}
	}
}

func TestScene(t *testing.T) {
	mustShow(t, "the scene", sceneShown)
	for n := range scene() {
		mustDoAll(t, scene()[:n])
	}
}

// P17.1: each Kind, done.
func TestDone(t *testing.T) {
	const rest = `"t"template({b()"in"}"out")!c!svg:g(svg:template())`
	for _, c := range []struct {
		said, want string
		more       []api.Op
	}{
		{"Append under the Document", `?html?p a=1(` + rest + `)s()`, []api.Op{under(0, hEmpty)}},
		{"Append under an element", `?html?p a=1(` + rest + `i(u()))`, []api.Op{under(hP, hLoose)}},
		{"Append under a Content", `?html?p a=1("t"template({b()"in"i(u())}"out")!c!svg:g(svg:template()))`, []api.Op{under(hContent, hLoose)}},
		{"Append under a Content's second handle", `?html?p a=1("t"template({b()"in"!f!}"out")!c!svg:g(svg:template()))`, []api.Op{under(hSecond, hFree)}},
		{"Append of a template", `?html?p a=1(` + rest + `template({s()}))`, []api.Op{under(hWithin, hEmpty), under(hP, hApart)}},
		{"Before", `?html?p a=1("t"template({b()"in"}"out")i(u())!c!svg:g(svg:template()))`, []api.Op{before(hComment, hLoose)}},
		{"Before the doctype", `!f!?html?p a=1(` + rest + `)`, []api.Op{before(hDoctype, hFree)}},
		{"Before within a Content", `?html?p a=1("t"template({s()b()"in"}"out")!c!svg:g(svg:template()))`, []api.Op{before(hInner, hEmpty)}},
		{"Foster, Ref hangs", `?html?p a=1("t"s()template({b()"in"}"out")!c!svg:g(svg:template()))`, []api.Op{foster(hTemplate, 0, hEmpty)}},
		{"Foster, Ref hangs below what hangs nowhere", `?html?p a=1(` + rest + `i(s()u()))`, []api.Op{foster(hBelow, hP, hEmpty), under(hP, hLoose)}},
		{"Foster, Ref hangs, Parent may have no kids", `?html?p a=1("t"s()template({b()"in"}"out")!c!svg:g(svg:template()))`, []api.Op{foster(hTemplate, hComment, hEmpty)}},
		{"Foster, Ref hangs, Parent is within what is put", `?html?p a=1("t"template({b()"in"}"out")!c!i(u())svg:g(svg:template()))`, []api.Op{foster(hG, hBelow, hLoose)}},
		{"Foster, Ref hangs nowhere", `?html?p a=1(` + rest + `s())`, []api.Op{foster(hLoose, hP, hEmpty)}},
		{"Foster, Ref hangs no more", `?html?p a=1("t"template({b()"in"}"out")!c!s())`, []api.Op{detach(hG), foster(hG, hP, hEmpty)}},
		{"Foster, Ref is the Document", `?html?p a=1(` + rest + `)s()`, []api.Op{foster(0, 0, hEmpty)}},
		{"Foster, Ref is the Document, Parent a Content", `?html?p a=1("t"template({b()"in"s()}"out")!c!svg:g(svg:template()))`, []api.Op{foster(0, hSecond, hEmpty)}},
		{"Foster, Ref is what is put", `?html?p a=1(` + rest + `s())`, []api.Op{foster(hEmpty, hP, hEmpty)}},
		{"Write", `?html?p a=1(` + rest + `"w")`, []api.Op{write(hP, "w")}},
		{"Write behind a Text", `?html?p a=1("t"template({b()"in"}"outwx")!c!svg:g(svg:template()))`, []api.Op{write(hTemplate, "w"), write(hTemplate, "x")}},
		{"Write under a Content", `?html?p a=1("t"template({b()"in\xffx"}"out")!c!svg:g(svg:template()))`, []api.Op{write(hContent, "\xff"), write(hSecond, "x")}},
		{"Write under the Document", sceneShown, []api.Op{write(0, "w")}},
		{"Write of nothing", sceneShown, []api.Op{write(hP, ""), write(0, "")}},
		{"Pour, Ref hangs", `?html?p a=1("t"template({b()"in"}"out")"w"!c!svg:g(svg:template()))`, []api.Op{pour(hComment, 0, "w")}},
		{"Pour behind a Text", `?html?p a=1("twx"template({b()"in"}"out")!c!svg:g(svg:template()))`, []api.Op{pour(hTemplate, 0, "w"), pour(hTemplate, hG, "x")}},
		{"Pour, Ref hangs, Parent may have no kids", `?html?p a=1("tw"template({b()"in"}"out")!c!svg:g(svg:template()))`, []api.Op{pour(hTemplate, hFree, "w")}},
		{"Pour, Ref hangs under the Document", sceneShown, []api.Op{pour(hP, hG, "w")}},
		{"Pour, Ref hangs nowhere", `?html?p a=1("t"template({b()"in"}"out")!c!svg:g(svg:template()"w"))`, []api.Op{pour(hLoose, hG, "w")}},
		{"Pour, Ref hangs nowhere, behind a Text", `?html?p a=1("t"template({b()"inw"}"out")!c!svg:g(svg:template()))`, []api.Op{pour(hFree, hSecond, "w")}},
		{"Pour, Ref is the Document", `?html?p a=1(` + rest + `"w")`, []api.Op{pour(0, hP, "w")}},
		{"Pour, both are the Document", sceneShown, []api.Op{pour(0, 0, "w")}},
		{"Pour of nothing", sceneShown, []api.Op{pour(hComment, 0, ""), pour(hLoose, hP, "")}},
		{"Detach", `?html?p a=1("t"!c!svg:g(svg:template()))`, []api.Op{detach(hTemplate)}},
		{"Detach twice", `?html?`, []api.Op{detach(hP), detach(hP)}},
		{"Detach of what hangs nowhere", sceneShown, []api.Op{detach(hLoose), detach(hFree), detach(hApart)}},
		{"Detach, Append", `p a=1(` + rest + `)?html?`, []api.Op{detach(hDoctype), under(0, hDoctype)}},
		{"Move", `?html?p a=1()s(` + rest + `)`, []api.Op{move(hP, hEmpty), under(0, hEmpty)}},
		{"Move of a template", `?html?p a=1("t"template({b()"in"})!c!svg:g(svg:template()"out"))`, []api.Op{move(hTemplate, hG)}},
		{"Move of a Content", `?html?p a=1("t"template({}"out"b()"in")!c!svg:g(svg:template()))`, []api.Op{move(hSecond, hTemplate)}},
		{"Move to a Content", `?html?p a=1("t"template({b()"in"u()}"out")!c!svg:g(svg:template()))`, []api.Op{move(hLoose, hContent)}},
		{"Move of the Document", `s(?html?p a=1(` + rest + `))`, []api.Op{move(0, hEmpty), under(0, hEmpty)}},
		{"Move to the Document", `?html?p a=1(` + rest + `)u()`, []api.Op{move(hLoose, 0)}},
		{"Inner once more", `?html?p a=1("t"template({b()"inw"}"out")!c!svg:g(svg:template()))`, []api.Op{inner(hTemplate, stranger), write(stranger, "w")}},
		{"Inner of a template within one", `?html?p a=1("t"template({b()"in"template({"w"})}"out")!c!svg:g(svg:template()))`, []api.Op{el(1, "template"), under(hSecond, 1), inner(1, 2), write(2, "w")}},
		{"More", `?html?p a=1 b=2 A=3 =4(` + rest + `)`, []api.Op{more(hP, attr("b", "2"), attr("a", "2"), attr("b", "3"), attr("A", "3"), attr("", "4"))}},
		{"More of nothing", sceneShown, []api.Op{more(hP), {Kind: api.More, Node: hTemplate, Attrs: []api.Attr{}}}},
		{"More of a template, of SVG", `?html?p a=1("t"template x=1({b()"in"}"out")!c!svg:g x=2(svg:template()))`, []api.Op{more(hTemplate, attr("x", "1")), more(hG, attr("x", "2"))}},
	} {
		mustShow(t, c.said, c.want, c.more...)
	}
}

func TestMake(t *testing.T) {
	for _, c := range []struct {
		o    api.Op
		want string
	}{
		{el(1, "p"), "p()"},
		{el(1, "\xff <"), "\xff <()"},
		{svg(1, "template"), "svg:template()"},
		{el(1, "template"), "template({})"},
		{el(1, "p", attr("a", "1"), attr("b", ""), attr("a", "2"), attr("A", "3"), attr("b", "4")), "p a=1 b= A=3()"},
		{api.Op{Kind: api.Make, Node: 1, Type: api.Element, NS: api.SVG, Name: "g", Attrs: []api.Attr{attr("x", "1"), attr("x", "1")}, Text: "passed by"}, "svg:g x=1()"},
		{comment(1, ""), "!!"},
		{comment(1, "c"), "!c!"},
		{api.Op{Kind: api.Make, Node: 1, Type: api.CommentNode, NS: api.SVG, Name: "template", Attrs: []api.Attr{attr("a", "1")}, Text: "c"}, "!c!"},
		{doctype(1, ""), "??"},
		{doctype(1, "html"), "?html?"},
		{api.Op{Kind: api.Make, Node: 1, Type: api.DoctypeNode, NS: api.HTML, Name: "template", Attrs: []api.Attr{attr("a", "1")}, Text: "t"}, "?template?"},
	} {
		for _, h := range []int{1, 2, 9, 1<<31 - 1} {
			o := c.o
			o.Node = h
			a, n, why := Do([]api.Op{o})
			if n != 1 || why != api.OK || shown(a) != "" {
				t.Errorf("Make of %s: %d, %v", c.want, n, why)
			}
			a, n, why = Do([]api.Op{o, under(0, h)})
			if n != 2 || why != api.OK || shown(a) != c.want {
				t.Errorf("Make of %s: %d, %v, %s", c.want, n, why, shown(a))
			}
			mustDoAll(t, []api.Op{o, under(0, h)})
		}
	}
}

// P17.1: a refusal of each reason, at the first place, in the middle and last.
func TestRefusedAtEachPlace(t *testing.T) {
	for _, c := range []struct {
		said string
		why  api.Errno
		o    api.Op
	}{
		{"no Kind", api.ErrForm, api.Op{}},
		{"no such Kind", api.ErrForm, api.Op{Kind: 12}},
		{"a Ref too many", api.ErrForm, api.Op{Kind: api.Detach, Ref: 1}},
		{"an element of no namespace", api.ErrForm, api.Op{Kind: api.Make, Node: stranger, Type: api.Element, Name: "p"}},
		{"an element of no name", api.ErrForm, api.Op{Kind: api.Make, Node: stranger, Type: api.Element, NS: api.HTML}},
		{"a Text is made", api.ErrForm, api.Op{Kind: api.Make, Node: stranger, Type: api.TextNode, Text: "t"}},
		{"Make of the Document's handle", api.ErrTaken, el(0, "p")},
		{"Inner of the Document's handle", api.ErrTaken, inner(0, 0)},
		{"Append of none", api.ErrNone, under(0, stranger)},
		{"Append to none", api.ErrNone, under(stranger, 0)},
		{"Before none", api.ErrNone, before(stranger, 0)},
		{"Before, of none", api.ErrNone, before(0, stranger)},
		{"Foster ahead of none", api.ErrNone, foster(stranger, 0, 0)},
		{"Foster under none", api.ErrNone, foster(0, stranger, 0)},
		{"Foster of none", api.ErrNone, foster(0, 0, stranger)},
		{"Write to none", api.ErrNone, write(stranger, "")},
		{"Pour ahead of none", api.ErrNone, pour(stranger, 0, "w")},
		{"Pour under none", api.ErrNone, pour(0, stranger, "w")},
		{"Detach of none", api.ErrNone, detach(stranger)},
		{"Move of none", api.ErrNone, move(stranger, 0)},
		{"Move to none", api.ErrNone, move(0, stranger)},
		{"Inner of none", api.ErrNone, inner(stranger, 1)},
		{"Inner of itself", api.ErrNone, inner(stranger, stranger)},
		{"More of none", api.ErrNone, more(stranger)},
		{"Append of the Document", api.ErrKind, under(0, 0)},
		{"Before the Document", api.ErrKind, before(0, 0)},
		{"Foster of the Document", api.ErrKind, foster(0, 0, 0)},
		{"Detach of the Document", api.ErrKind, detach(0)},
		{"Inner of the Document", api.ErrKind, inner(0, stranger)},
		{"More of the Document", api.ErrKind, more(0, attr("a", "1"))},
		{"Move of the Document to itself", api.ErrLoop, move(0, 0)},
	} {
		all := scene()
		mustRefuse(t, c.said+", alone", c.why, nil, c.o)
		mustRefuse(t, c.said+", first", c.why, nil, c.o, all...)
		mustRefuse(t, c.said+", second", c.why, all[:1], c.o, all[1:]...)
		mustRefuse(t, c.said+", in the middle", c.why, all[:9], c.o, all[9:]...)
		mustRefuse(t, c.said+", last", c.why, all, c.o)
	}
}

// P17.1: what arena refuses, behind the scene, and ahead of others.
func TestRefusedByArena(t *testing.T) {
	for _, c := range []struct {
		said string
		why  api.Errno
		o    api.Op
	}{
		{"Append to a comment", api.ErrKind, under(hComment, hEmpty)},
		{"Append to a doctype", api.ErrKind, under(hDoctype, hEmpty)},
		{"Append of a Content", api.ErrKind, under(hP, hContent)},
		{"Append of a Content's second handle", api.ErrKind, under(hP, hSecond)},
		{"Append of the Document", api.ErrKind, under(hP, 0)},
		{"Append of what hangs", api.ErrTaken, under(hEmpty, hP)},
		{"Append of what hangs, to where it is", api.ErrTaken, under(hP, hComment)},
		{"Append of what hangs, to itself", api.ErrTaken, under(hP, hP)},
		{"Append to itself", api.ErrLoop, under(hLoose, hLoose)},
		{"Append to what is below it", api.ErrLoop, under(hBelow, hLoose)},
		{"Append of a template to its Content", api.ErrLoop, under(hWithin, hApart)},
		{"Before a Content", api.ErrKind, before(hContent, hEmpty)},
		{"Before what hangs nowhere", api.ErrKind, before(hLoose, hEmpty)},
		{"Before, of a Content", api.ErrKind, before(hP, hWithin)},
		{"Before, of what hangs", api.ErrTaken, before(hComment, hG)},
		{"Before itself", api.ErrTaken, before(hP, hP)},
		{"Before what is below it", api.ErrLoop, before(hBelow, hLoose)},
		{"Foster ahead of a Content", api.ErrKind, foster(hContent, hP, hEmpty)},
		{"Foster ahead of the Content of what hangs nowhere", api.ErrKind, foster(hWithin, hP, hEmpty)},
		{"Foster of a Content, Ref hangs", api.ErrKind, foster(hComment, hP, hContent)},
		{"Foster of what hangs, Ref hangs", api.ErrTaken, foster(hComment, hEmpty, hG)},
		{"Foster ahead of what is below it", api.ErrLoop, foster(hBelow, hP, hLoose)},
		{"Foster to a comment, Ref hangs nowhere", api.ErrKind, foster(hLoose, hComment, hEmpty)},
		{"Foster of the Document, Ref hangs nowhere", api.ErrKind, foster(hLoose, hP, 0)},
		{"Foster of what hangs, Ref hangs nowhere", api.ErrTaken, foster(hLoose, hP, hG)},
		{"Foster to itself, Ref hangs nowhere", api.ErrLoop, foster(hFree, hLoose, hLoose)},
		{"Foster to what is below it, Ref hangs nowhere", api.ErrLoop, foster(hFree, hBelow, hLoose)},
		{"Foster to a doctype, Ref is the Document", api.ErrKind, foster(0, hDoctype, hEmpty)},
		{"Write to a comment", api.ErrKind, write(hComment, "w")},
		{"Write of nothing to a doctype", api.ErrKind, write(hDoctype, "")},
		{"Pour ahead of a Content", api.ErrKind, pour(hContent, hP, "w")},
		{"Pour of nothing ahead of a Content", api.ErrKind, pour(hSecond, hP, "")},
		{"Pour to a comment, Ref hangs nowhere", api.ErrKind, pour(hLoose, hComment, "w")},
		{"Pour to a comment, Ref is the Document", api.ErrKind, pour(0, hFree, "")},
		{"Detach of a Content", api.ErrKind, detach(hContent)},
		{"Detach of a loose template's Content", api.ErrKind, detach(hWithin)},
		{"Move of a comment", api.ErrKind, move(hComment, hP)},
		{"Move to a doctype", api.ErrKind, move(hP, hDoctype)},
		{"Move to itself", api.ErrLoop, move(hEmpty, hEmpty)},
		{"Move to what is below it", api.ErrLoop, move(hP, hSVG)},
		{"Move of a template to its Content", api.ErrLoop, move(hTemplate, hSecond)},
		{"Move of the Document to what is below it", api.ErrLoop, move(0, hInner)},
		{"Inner of an element", api.ErrKind, inner(hP, stranger)},
		{"Inner of a template of SVG", api.ErrKind, inner(hSVG, stranger)},
		{"Inner of a comment", api.ErrKind, inner(hComment, stranger)},
		{"Inner of a doctype", api.ErrKind, inner(hDoctype, stranger)},
		{"Inner of a Content", api.ErrKind, inner(hContent, stranger)},
		{"More of a comment", api.ErrKind, more(hComment)},
		{"More of a doctype", api.ErrKind, more(hDoctype, attr("a", "1"))},
		{"More of a Content", api.ErrKind, more(hContent, attr("a", "1"))},
	} {
		mustRefuse(t, c.said, c.why, scene(), c.o)
		mustRefuse(t, c.said+", ahead of others", c.why, scene(), c.o, el(stranger, "p"), under(hP, stranger), write(hP, "w"), quirks())
	}
}

// P17.1: the order of the reasons.
func TestTheFirstReasonIsTold(t *testing.T) {
	wrong := el(hP, "p")
	wrong.Ref = stranger
	for _, c := range []struct {
		said string
		why  api.Errno
		o    api.Op
	}{
		{"not Right, and a Node that is known", api.ErrForm, wrong},
		{"not Right, and the Document's handle", api.ErrForm, api.Op{Kind: api.Make, Type: api.Document}},
		{"not Right, and an Inner of what is known", api.ErrForm, api.Op{Kind: api.Inner, Node: hP, Ref: stranger, Text: "t"}},
		{"not Right, and a number that is not known", api.ErrForm, api.Op{Kind: api.Detach, Node: stranger, Name: "n"}},
		{"a number below 0", api.ErrForm, detach(-1)},
		{"a number that is too great", api.ErrForm, under(0, 1<<31)},
		{"the least number", api.ErrForm, write(math.MinInt, "w")},
		{"Make of what is known, of no namespace", api.ErrTaken, api.Op{Kind: api.Make, Node: hP, Type: api.Element, Name: "p"}},
		{"Make of what is known, of no name", api.ErrTaken, el(hContent, "")},
		{"Inner of what is known, Ref is not", api.ErrTaken, inner(stranger, hP)},
		{"Inner of what is known, Ref has no Content", api.ErrTaken, inner(hG, hP)},
		{"Inner of the Document's handle, Ref is not known", api.ErrTaken, inner(stranger, 0)},
		{"Append to what is not known, of what hangs", api.ErrNone, under(stranger, hP)},
		{"Append of what is not known, to a comment", api.ErrNone, under(hComment, stranger)},
		{"Before what is not known, of a Content", api.ErrNone, before(stranger, hContent)},
		{"Foster: Parent is not known, Ref hangs", api.ErrNone, foster(hComment, stranger, hEmpty)},
		{"Foster: Ref is not known, Parent is", api.ErrNone, foster(stranger, hP, hEmpty)},
		{"Foster: Node is not known, Ref is a Content", api.ErrNone, foster(hContent, hP, stranger)},
		{"Foster: Parent is not known, Ref is a Content", api.ErrNone, foster(hContent, stranger, hEmpty)},
		{"Pour: Parent is not known, Ref hangs", api.ErrNone, pour(hComment, stranger, "w")},
		{"Pour: Parent is not known, there is nothing to pour", api.ErrNone, pour(hComment, stranger, "")},
		{"Pour: Ref is not known, Parent is a comment", api.ErrNone, pour(stranger, hComment, "w")},
		{"Move to what is not known, of a comment", api.ErrNone, move(hComment, stranger)},
		{"Append of what hangs, to a comment", api.ErrKind, under(hComment, hG)},
		{"Append of what hangs, to what is below it", api.ErrTaken, under(hSVG, hG)},
	} {
		mustRefuse(t, c.said, c.why, scene(), c.o)
	}
}

// TestTheFirstPlaceIsTold: of two that would be refused the first one, whatever its reason is.
func TestTheFirstPlaceIsTold(t *testing.T) {
	bad := []api.Op{{}, el(0, "p"), detach(stranger), detach(0), move(0, 0)}
	why := []api.Errno{api.ErrForm, api.ErrTaken, api.ErrNone, api.ErrKind, api.ErrLoop}
	for i := range bad {
		for j := range bad {
			l := append(append(scene(), bad[i]), append(scene(), bad[j])...)
			if a, n, got := Do(l); a != nil || n != len(scene()) || got != why[i] || Check(l) != why[i] {
				t.Errorf("%d, %d: %d, %v", i, j, n, got)
			}
		}
	}
}

// P17.1: handles are not the arena's own numbers.
func TestHandles(t *testing.T) {
	l := []api.Op{
		el(1<<31-1, "a"), el(2, "b"), el(1, "c"), el(3, "d"), el(1<<20, "e"),
		under(0, 1<<31-1), under(1<<31-1, 1), under(1, 3), under(3, 2), before(3, 1<<20),
	}
	a, n, why := Do(l)
	if n != len(l) || why != api.OK || shown(a) != "a(c(e()d(b())))" {
		t.Fatalf("%d, %v", n, why)
	}
	mustDoAll(t, l)
	// What the arena made on its own, Texts and Contents, has no handle.
	l = []api.Op{el(10, "template"), write(10, "t"), el(20, "p")}
	for h := 1; h < 9; h++ {
		mustRefuse(t, "handle "+strconv.Itoa(h), api.ErrNone, l, detach(h))
		mustRefuse(t, "handle "+strconv.Itoa(h), api.ErrNone, l, write(h, "w"))
		if Check(append(l, el(h, "q"), under(0, h))) != api.OK {
			t.Errorf("Make of handle %d", h)
		}
	}
	mustRefuse(t, "made twice", api.ErrTaken, l, el(10, "template"))
	mustRefuse(t, "a comment of the same handle", api.ErrTaken, l, comment(20, ""))
	mustRefuse(t, "made, taken away and made again", api.ErrTaken, append(l, under(0, 20), detach(20)), el(20, "p"))
}

func TestHandlesOfContents(t *testing.T) {
	l := []api.Op{el(5, "template"), inner(5, 9), el(6, "template"), inner(6, 8), inner(5, 7)}
	mustRefuse(t, "Inner of the same handle", api.ErrTaken, l, inner(5, 9))
	mustRefuse(t, "Inner of another's handle", api.ErrTaken, l, inner(6, 9))
	mustRefuse(t, "Inner of its own handle", api.ErrTaken, l, inner(5, 5))
	mustRefuse(t, "Make of a Content's handle", api.ErrTaken, l, el(7, "p"))
	mustRefuse(t, "Inner of a Content", api.ErrKind, l, inner(9, 1))
	l = append(l, write(9, "a"), write(7, "b"), write(8, "c"), under(0, 6), under(8, 5))
	a, n, why := Do(l)
	if n != len(l) || why != api.OK || shown(a) != `template({"c"template({"ab"})})` || a.Len() != 7 {
		t.Errorf("%d, %v", n, why)
	}
	mustDoAll(t, l)
}

// TestRefusedHandlesStayUnknown: they can still be given.
func TestRefusedHandlesStayUnknown(t *testing.T) {
	nameless := api.Op{Kind: api.Make, Node: 4, Type: api.Element, NS: api.HTML}
	placeless := api.Op{Kind: api.Make, Node: 4, Type: api.Element, Name: "template"}
	wrong := el(4, "p")
	wrong.Ref = 1
	for i, o := range []api.Op{nameless, placeless, wrong, inner(2, 4), inner(9, 4), inner(0, 4), inner(4, 4)} {
		p := New()
		mustTell(t, "Make", p.Do(el(2, "p")), api.OK)
		if p.Do(o) == api.OK {
			t.Errorf("case %d is not refused", i)
		}
		for _, next := range []api.Op{detach(4), under(0, 4), write(4, "w"), more(4), inner(4, 5), before(2, 4)} {
			mustTell(t, op.Text(next), p.Do(next), api.ErrNone)
		}
		mustTell(t, "Make", p.Do(el(4, "template")), api.OK)
		mustTell(t, "Inner", p.Do(inner(4, 5)), api.OK)
		mustTell(t, "Write", p.Do(write(5, "w")), api.OK)
		mustTell(t, "Append", p.Do(under(0, 4)), api.OK)
		if shown(p.Arena()) != `template({"w"})` || p.Arena().Len() != 5 {
			t.Errorf("case %d: %s, Len %d", i, shown(p.Arena()), p.Arena().Len())
		}
	}
}

func TestQuirks(t *testing.T) {
	for _, l := range [][]api.Op{nil, {quirks()}, {quirks(), quirks()}, scene(), append(scene(), quirks()), append([]api.Op{quirks()}, scene()...)} {
		want := slices.ContainsFunc(l, func(o api.Op) bool { return o.Kind == api.Quirks })
		a, n, why := Do(l)
		if n != len(l) || why != api.OK || a.Quirky() != want {
			t.Errorf("%d of %d, %v, Quirky %v", n, len(l), why, a.Quirky())
		}
		mustDoAll(t, l)
	}
	// One that is not Right does not make it quirky.
	p := New()
	mustTell(t, "Quirks", p.Do(api.Op{Kind: api.Quirks, Text: "t"}), api.ErrForm)
	mustTell(t, "Quirks", p.Do(api.Op{Kind: api.Quirks, Node: 1}), api.ErrForm)
	if p.Arena().Quirky() {
		t.Error("a refused Quirks is seen")
	}
}

// P17.2: operations one by one, each with refused ones ahead of it, against Do of all.
func TestPlayer(t *testing.T) {
	bad := []api.Op{
		{}, el(0, "p"), detach(stranger), detach(0), move(0, 0), foster(0, stranger, 0), pour(stranger, 0, "w"), inner(0, stranger), inner(stranger, 1),
		{Kind: api.Make, Node: stranger, Type: api.Element, NS: api.HTML}, more(0, attr("z", "9")), {Kind: api.Quirks, Ref: 1}, before(0, 0), under(0, 0),
	}
	p := New()
	if tell(p.Arena()) != tell(arena.New()) {
		t.Errorf("a new Player: %s", tell(p.Arena()))
	}
	all := append(scene(), quirks(), under(hP, hLoose), pour(hBelow, 0, "w"), foster(hFree, hSecond, hEmpty))
	for i, o := range all {
		for _, wrong := range bad {
			if p.Do(wrong) == api.OK {
				t.Errorf("%s is not refused", op.Text(wrong))
			}
		}
		mustTell(t, op.Text(o), p.Do(o), api.OK)
		a, n, why := Do(all[:i+1])
		if n != i+1 || why != api.OK || tell(a) != tell(p.Arena()) {
			t.Fatalf("behind %d: %d, %v:\n%s\nwant\n%s", i, n, why, tell(p.Arena()), tell(a))
		}
	}
	if knows(p, stranger) || !knows(p, hSecond) {
		t.Error("handles")
	}
}

// P17.2: the arena is not by itself.
func TestArenaOfAPlayer(t *testing.T) {
	p := New()
	a := p.Arena()
	for i, o := range scene() {
		mustTell(t, op.Text(o), p.Do(o), api.OK)
		want, _, _ := Do(scene()[:i+1])
		if tell(a) != tell(want) || tell(p.Arena()) != tell(want) {
			t.Fatalf("the arena that was told first, behind %d:\n%s", i, tell(a))
		}
	}
	// What is done to it the Player sees; nodes of its own get the next numbers, and no handle.
	n, _ := a.Make(api.Element, api.HTML, "q", nil, "")
	a.Append(0, n)
	a.Quirks(true)
	mustTell(t, "Make", p.Do(el(1, "r")), api.OK)
	mustTell(t, "Append", p.Do(under(0, 1)), api.OK)
	if shown(p.Arena()) != sceneShown+"q()r()" || !p.Arena().Quirky() || knows(p, n) {
		t.Errorf("%s", shown(p.Arena()))
	}
	a.Quirks(false)
	mustTell(t, "Quirks", p.Do(quirks()), api.OK)
	if !a.Quirky() {
		t.Error("Quirks is not seen")
	}
}
