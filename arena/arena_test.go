package arena

import (
	"math"
	"slices"
	"strconv"
	"testing"

	"arbour/api"
	"arbour/attrs"
	"arbour/tree"
)

// brief writes every field of a tree that is not too deep.
func brief(t api.Tree) string {
	out := "{" + strconv.Itoa(t.Kind) + " " + strconv.Itoa(t.NS) + " " + strconv.Quote(t.Name) + " ["
	for _, a := range t.Attrs {
		out += strconv.Quote(a.Name) + "=" + strconv.Quote(a.Value) + " "
	}
	out += "] " + strconv.Quote(t.Text)
	for _, kid := range t.Kids {
		out += " " + brief(kid)
	}
	return out + "}"
}

func doc(kids ...api.Tree) api.Tree { return api.Tree{Kind: api.Document, Kids: kids} }

func el(name string, kids ...api.Tree) api.Tree {
	return api.Tree{Kind: api.Element, NS: api.HTML, Name: name, Kids: kids}
}

func svg(name string, kids ...api.Tree) api.Tree {
	return api.Tree{Kind: api.Element, NS: api.SVG, Name: name, Kids: kids}
}

func with(n api.Tree, l ...api.Attr) api.Tree {
	n.Attrs = l
	return n
}

func text(s string) api.Tree { return api.Tree{Kind: api.TextNode, Text: s} }

func comment(s string) api.Tree { return api.Tree{Kind: api.CommentNode, Text: s} }

func doctype(name string) api.Tree { return api.Tree{Kind: api.DoctypeNode, Name: name} }

func content(kids ...api.Tree) api.Tree { return api.Tree{Kind: api.Content, Kids: kids} }

// oneOf is a node of that Kind that would be right in the right place.
func oneOf(kind int) api.Tree {
	switch kind {
	case api.Element:
		return el("p")
	case api.TextNode:
		return text("a")
	case api.CommentNode:
		return comment("a")
	case api.DoctypeNode:
		return doctype("html")
	}
	return api.Tree{Kind: kind}
}

// strangers are numbers that are no node of an arena of that size.
func strangers(size int) []int {
	return []int{-1, -2, -size, size, size + 1, 1 << 31, 1 << 40, math.MinInt, math.MaxInt}
}

// scene is an arena with nodes of each Kind, in its tree and loose ones, and what the promise's words make of the same calls.
type scene struct {
	a *Arena
	p *plain

	doctype, div, text, template, content, inner, innerText, outer, comment, g, svgTemplate, svgText int

	loose, below, deep, looseText, looseComment, looseDoctype, looseTemplate, looseContent, inLoose, besideLoose, looseSVG int
}

// hang makes a node, and appends it unless parent is below 0.
func (s *scene) hang(parent int, label api.Tree) int {
	n, _ := s.a.Make(label.Kind, label.NS, label.Name, label.Attrs, label.Text)
	s.p.make(label.Kind, label.NS, label.Name, label.Attrs, label.Text)
	if parent >= 0 {
		s.a.Append(parent, n)
		s.p.append(parent, n)
	}
	return n
}

func newScene() *scene {
	s := &scene{a: New(), p: newPlain()}
	s.doctype = s.hang(0, doctype("html"))
	s.div = s.hang(0, with(el("div"), api.Attr{Name: "a", Value: "1"}))
	s.text = s.hang(s.div, text("t"))
	s.template = s.hang(s.div, el("template"))
	s.content = s.template + 1
	s.inner = s.hang(s.content, el("p"))
	s.innerText = s.hang(s.content, text("in"))
	s.outer = s.hang(s.template, text("out"))
	s.comment = s.hang(s.div, comment("c"))
	s.g = s.hang(s.div, with(svg("g"), api.Attr{Name: "x"}, api.Attr{Name: "y", Value: "2"}))
	s.svgTemplate = s.hang(s.g, svg("template"))
	s.svgText = s.hang(s.svgTemplate, text("s"))
	s.loose = s.hang(-1, el("p"))
	s.below = s.hang(s.loose, el("b"))
	s.deep = s.hang(s.below, el("i"))
	s.looseText = s.hang(-1, text("lt"))
	s.looseComment = s.hang(-1, comment("lc"))
	s.looseDoctype = s.hang(-1, doctype("ld"))
	s.looseTemplate = s.hang(-1, el("template"))
	s.looseContent = s.looseTemplate + 1
	s.inLoose = s.hang(s.looseContent, el("b"))
	s.besideLoose = s.hang(s.looseTemplate, el("u"))
	s.looseSVG = s.hang(-1, svg("template"))
	return s
}

func (s *scene) plain() *plain { return s.p }

func mustTell(t *testing.T, said string, got, want api.Errno) {
	t.Helper()
	if got != want {
		t.Errorf("%s: %v, want %v", said, got, want)
	}
}

func mustHaveKids(t *testing.T, a *Arena, n int, want ...int) {
	t.Helper()
	if got := a.Kids(n); !slices.Equal(got, want) {
		t.Errorf("Kids(%d): %v, want %v", n, got, want)
	}
	for _, kid := range want {
		if got, ok := a.Parent(kid); got != n || !ok {
			t.Errorf("Parent(%d): %d, %v, want %d", kid, got, ok, n)
		}
	}
}

func mustBeLoose(t *testing.T, a *Arena, n int) {
	t.Helper()
	if got, ok := a.Parent(n); got != 0 || ok {
		t.Errorf("Parent(%d): %d, %v, want none", n, got, ok)
	}
}

func mustBe(t *testing.T, a *Arena, n int, want api.Tree) {
	t.Helper()
	got, why := a.Pure(n)
	if why != api.OK || brief(got) != brief(want) {
		t.Errorf("Pure(%d): %s, %v, want %s", n, brief(got), why, brief(want))
	}
}

func mustKnowNothingOf(t *testing.T, a *Arena, numbers ...int) {
	t.Helper()
	for _, n := range numbers {
		if x, ok := a.Node(n); ok || brief(x) != brief(api.Tree{}) {
			t.Errorf("Node(%d): %s, %v", n, brief(x), ok)
		}
		if x, ok := a.Parent(n); ok || x != 0 {
			t.Errorf("Parent(%d): %d, %v", n, x, ok)
		}
		if x, ok := a.Content(n); ok || x != 0 {
			t.Errorf("Content(%d): %d, %v", n, x, ok)
		}
		if x := a.Kids(n); len(x) != 0 {
			t.Errorf("Kids(%d): %v", n, x)
		}
		if x, why := a.Pure(n); why != api.ErrNone || brief(x) != brief(api.Tree{}) {
			t.Errorf("Pure(%d): %s, %v", n, brief(x), why)
		}
	}
}

// mustStay holds the whole of the scene's arena against what it was made as.
func (s *scene) mustStay(t *testing.T, said string) {
	t.Helper()
	failed := t.Failed()
	mustAgree(t, s.a, newScene().p)
	if !failed && t.Failed() {
		t.Errorf("%s has changed something", said)
	}
}

// makeEl makes an HTML element.
func makeEl(t *testing.T, a *Arena, name string) int {
	t.Helper()
	n, why := a.Make(api.Element, api.HTML, name, nil, "")
	if why != api.OK {
		t.Fatalf("Make of %s: %v", name, why)
	}
	return n
}

func TestRunOfTheChapter(t *testing.T) {
	a := New()
	p := makeEl(t, a, "p")
	mustTell(t, "Write a", a.Write(p, "a"), api.OK)
	mustTell(t, "Write b", a.Write(p, "b"), api.OK)
	mustBe(t, a, p, el("p", text("ab")))
	if a.Len() != 3 {
		t.Errorf("Len: %d", a.Len())
	}
}

func TestExamplesOfTheChapter(t *testing.T) {
	a := New()
	p := makeEl(t, a, "p")
	mustTell(t, "Append to itself", a.Append(p, p), api.ErrLoop)
	mustTell(t, "Append", a.Append(0, p), api.OK)
	mustTell(t, "Append twice", a.Append(0, p), api.ErrTaken)
}

func TestNew(t *testing.T) {
	a := New()
	if a.Len() != 1 || a.Quirky() {
		t.Errorf("Len %d, Quirky %v", a.Len(), a.Quirky())
	}
	mustHaveKids(t, a, 0)
	mustBeLoose(t, a, 0)
	mustBe(t, a, 0, doc())
	if x, ok := a.Node(0); !ok || brief(x) != brief(doc()) {
		t.Errorf("Node(0): %s, %v", brief(x), ok)
	}
	if n, ok := a.Content(0); n != 0 || ok {
		t.Errorf("Content(0): %d, %v", n, ok)
	}
	mustKnowNothingOf(t, a, strangers(1)...)
	// Two of them have nothing to do with each other.
	b := New()
	makeEl(t, a, "p")
	a.Append(0, 1)
	a.Quirks(true)
	if b.Len() != 1 || b.Quirky() || len(b.Kids(0)) != 0 {
		t.Error("one arena is seen in another")
	}
}

func TestMakeOfEachKind(t *testing.T) {
	l := []api.Attr{{Name: "a", Value: "1"}, {Name: "b"}}
	for _, c := range []struct {
		kind int
		want api.Tree
	}{
		{api.DoctypeNode, doctype("n")},
		{api.Element, with(el("n"), l...)},
		{api.TextNode, text("t")},
		{api.CommentNode, comment("t")},
	} {
		a := New()
		for want := 1; want <= 3; want++ {
			n, why := a.Make(c.kind, api.HTML, "n", l, "t")
			if n != want || why != api.OK || a.Len() != want+1 {
				t.Errorf("Make of Kind %d: %d, %v, Len %d", c.kind, n, why, a.Len())
			}
			mustBe(t, a, n, c.want)
			mustBeLoose(t, a, n)
			mustHaveKids(t, a, n)
			if x, ok := a.Node(n); !ok || brief(x) != brief(c.want) {
				t.Errorf("Node of Kind %d: %s, %v", c.kind, brief(x), ok)
			}
		}
		mustHaveKids(t, a, 0)
	}
	for _, kind := range []int{api.Document, api.Content, 0, -1, 7, 8, 1 << 32, 1<<32 + api.Element, math.MinInt, math.MaxInt} {
		a := New()
		for _, ns := range []int{api.HTML, api.SVG, 0} {
			for _, name := range []string{"n", ""} {
				if n, why := a.Make(kind, ns, name, l, "t"); n != 0 || why != api.ErrKind || a.Len() != 1 {
					t.Errorf("Make of Kind %d, %d, %q: %d, %v, Len %d", kind, ns, name, n, why, a.Len())
				}
			}
		}
	}
}

func TestMakeOfElements(t *testing.T) {
	a := New()
	made := 0
	for _, ns := range []int{api.HTML, api.SVG, 0, -1, 3, 1<<32 + 1, math.MinInt, math.MaxInt} {
		for _, name := range []string{"p", "P", "a b", "\x00", "\xff", "<", ""} {
			n, why := a.Make(api.Element, ns, name, nil, "passed by")
			if ns != api.HTML && ns != api.SVG || name == "" {
				if n != 0 || why != api.ErrForm {
					t.Errorf("Make of %d, %q: %d, %v", ns, name, n, why)
				}
				continue
			}
			made++
			// Those that are refused take no number.
			if n != made || why != api.OK {
				t.Errorf("Make of %d, %q: %d, %v, want %d", ns, name, n, why, made)
			}
			mustBe(t, a, n, api.Tree{Kind: api.Element, NS: ns, Name: name})
		}
	}
	if a.Len() != made+1 {
		t.Errorf("Len: %d, want %d", a.Len(), made+1)
	}
}

// TestMakePassesBy: a namespace and a name that an Element must not have are nothing to the others.
func TestMakePassesBy(t *testing.T) {
	l := []api.Attr{{Name: "a"}, {Name: "a"}}
	for _, ns := range []int{0, api.HTML, api.SVG, -1, 9} {
		for _, name := range []string{"", "template", "x"} {
			for _, s := range []string{"", "t", "\xff\x00"} {
				a := New()
				for i, want := range []api.Tree{doctype(name), text(s), comment(s)} {
					n, why := a.Make(want.Kind, ns, name, l, s)
					if n != i+1 || why != api.OK || a.Len() != i+2 {
						t.Errorf("Make of Kind %d: %d, %v", want.Kind, n, why)
					}
					mustBe(t, a, n, want)
					if in, ok := a.Content(n); in != 0 || ok {
						t.Errorf("Content of Kind %d: %d, %v", want.Kind, in, ok)
					}
				}
			}
		}
	}
}

func TestMakeOfAttributes(t *testing.T) {
	for _, c := range []struct{ l, want []api.Attr }{
		{nil, nil},
		{[]api.Attr{}, nil},
		{[]api.Attr{{}}, []api.Attr{{}}},
		{[]api.Attr{{Name: "a", Value: "1"}, {Name: "a", Value: "2"}}, []api.Attr{{Name: "a", Value: "1"}}},
		{[]api.Attr{{Name: "b"}, {Name: "a", Value: "1"}, {Name: "b", Value: "3"}, {Name: "c"}, {Name: "a"}}, []api.Attr{{Name: "b"}, {Name: "a", Value: "1"}, {Name: "c"}}},
		{[]api.Attr{{Name: "a"}, {Name: "A"}}, []api.Attr{{Name: "a"}, {Name: "A"}}},
		{[]api.Attr{{Name: ""}, {Name: "\xff"}, {Name: ""}, {Name: "\uFFFD"}}, []api.Attr{{Name: ""}, {Name: "\xff"}, {Name: "\uFFFD"}}},
	} {
		for _, label := range []api.Tree{el("p"), svg("g"), el("template"), svg("template")} {
			a := New()
			n, why := a.Make(label.Kind, label.NS, label.Name, c.l, "")
			x, ok := a.Node(n)
			if why != api.OK || !ok || brief(x) != brief(with(label, c.want...)) || !attrs.Same(x.Attrs, attrs.Unique(c.l)) {
				t.Errorf("Make of %v: %s, %v", c.l, brief(x), why)
			}
		}
	}
}

func TestMakeOfTemplates(t *testing.T) {
	a := New()
	l := []api.Attr{{Name: "a", Value: "1"}}
	for want := 1; want < 7; want += 2 {
		n, why := a.Make(api.Element, api.HTML, "template", l, "passed by")
		if n != want || why != api.OK || a.Len() != want+2 {
			t.Errorf("Make: %d, %v, Len %d", n, why, a.Len())
		}
		mustHaveKids(t, a, n, n+1)
		mustHaveKids(t, a, n+1)
		mustBeLoose(t, a, n)
		if in, ok := a.Content(n); in != n+1 || !ok {
			t.Errorf("Content: %d, %v", in, ok)
		}
		mustBe(t, a, n, with(el("template", content()), l...))
		mustBe(t, a, n+1, content())
	}
	for i, label := range []api.Tree{svg("template"), el("Template"), el("templates"), el("TEMPLATE"), el("p")} {
		n, why := a.Make(label.Kind, label.NS, label.Name, nil, "")
		if n != 7+i || why != api.OK || a.Len() != 8+i {
			t.Errorf("Make of %s: %d, %v, Len %d", brief(label), n, why, a.Len())
		}
		mustHaveKids(t, a, n)
		mustBe(t, a, n, label)
		if in, ok := a.Content(n); in != 0 || ok {
			t.Errorf("Content of %s: %d, %v", brief(label), in, ok)
		}
	}
	// A refused one takes the number of neither.
	if n, why := a.Make(api.Element, 3, "template", nil, ""); n != 0 || why != api.ErrForm || a.Len() != 12 {
		t.Errorf("Make: %d, %v, Len %d", n, why, a.Len())
	}
	if n, _ := a.Make(api.Element, api.HTML, "template", nil, ""); n != 12 || a.Len() != 14 {
		t.Errorf("Make behind a refused one: %d, Len %d", n, a.Len())
	}
}

func TestAppend(t *testing.T) {
	s := newScene()
	a := s.a
	mustTell(t, "under the Document", a.Append(0, s.loose), api.OK)
	mustHaveKids(t, a, 0, s.doctype, s.div, s.loose)
	mustTell(t, "under an Element without kids", a.Append(s.deep, s.looseText), api.OK)
	mustHaveKids(t, a, s.deep, s.looseText)
	mustTell(t, "under an Element with kids", a.Append(s.g, s.looseComment), api.OK)
	mustHaveKids(t, a, s.g, s.svgTemplate, s.looseComment)
	mustTell(t, "under a Content", a.Append(s.content, s.looseTemplate), api.OK)
	mustHaveKids(t, a, s.content, s.inner, s.innerText, s.looseTemplate)
	mustTell(t, "a doctype under a template", a.Append(s.template, s.looseDoctype), api.OK)
	mustHaveKids(t, a, s.template, s.content, s.outer, s.looseDoctype)
	mustHaveKids(t, a, s.looseTemplate, s.looseContent, s.besideLoose)
	mustBe(t, a, 0, doc(
		doctype("html"),
		with(el("div",
			text("t"),
			el("template", content(el("p"), text("in"), el("template", content(el("b")), el("u"))), text("out"), doctype("ld")),
			comment("c"),
			with(svg("g", svg("template", text("s")), comment("lc")), api.Attr{Name: "x"}, api.Attr{Name: "y", Value: "2"}),
		), api.Attr{Name: "a", Value: "1"}),
		el("p", el("b", el("i", text("lt")))),
	))
	// Texts side by side stay two, and one may stand under the Document: whether a tree is right is not asked.
	one, _ := a.Make(api.TextNode, 0, "", nil, "")
	two, _ := a.Make(api.TextNode, 0, "", nil, "x")
	mustTell(t, "a Text", a.Append(0, one), api.OK)
	mustTell(t, "a Text", a.Append(0, two), api.OK)
	mustHaveKids(t, a, 0, s.doctype, s.div, s.loose, one, two)
}

// refused is a call with two numbers and why it is refused.
type refused struct {
	x, n int
	why  api.Errno
}

func mustRefuse(t *testing.T, name string, call func(s *scene, x, n int) api.Errno, l []refused) {
	t.Helper()
	for _, c := range l {
		s := newScene()
		mustTell(t, name+" "+strconv.Itoa(c.x)+", "+strconv.Itoa(c.n), call(s, c.x, c.n), c.why)
		s.mustStay(t, name+" "+strconv.Itoa(c.x)+", "+strconv.Itoa(c.n))
	}
}

func TestAppendRefuses(t *testing.T) {
	s := newScene()
	l := []refused{
		{s.doctype, s.loose, api.ErrKind}, {s.text, s.loose, api.ErrKind}, {s.comment, s.loose, api.ErrKind},
		{s.looseText, s.loose, api.ErrKind}, {s.looseComment, s.loose, api.ErrKind}, {s.looseDoctype, s.loose, api.ErrKind},
		{s.div, 0, api.ErrKind}, {s.div, s.content, api.ErrKind}, {s.loose, 0, api.ErrKind}, {s.loose, s.looseContent, api.ErrKind},
		{s.template, s.content, api.ErrKind}, {s.looseTemplate, s.looseContent, api.ErrKind},
		{0, s.div, api.ErrTaken}, {0, s.text, api.ErrTaken}, {s.loose, s.inner, api.ErrTaken}, {s.div, s.text, api.ErrTaken}, {s.loose, s.below, api.ErrTaken},
		{s.loose, s.loose, api.ErrLoop}, {s.below, s.loose, api.ErrLoop}, {s.deep, s.loose, api.ErrLoop},
		{s.looseTemplate, s.looseTemplate, api.ErrLoop}, {s.looseContent, s.looseTemplate, api.ErrLoop}, {s.inLoose, s.looseTemplate, api.ErrLoop}, {s.besideLoose, s.looseTemplate, api.ErrLoop},
		// Several faults at once: the one that comes first.
		{0, 0, api.ErrKind}, {s.text, 0, api.ErrKind}, {s.content, s.content, api.ErrKind}, {s.text, s.text, api.ErrKind}, {s.looseText, s.looseText, api.ErrKind},
		{s.text, s.div, api.ErrKind}, {s.text, s.comment, api.ErrKind}, {s.inner, s.content, api.ErrKind}, {s.text, s.content, api.ErrKind},
		{s.div, s.div, api.ErrTaken}, {s.inner, s.div, api.ErrTaken}, {s.content, s.template, api.ErrTaken}, {s.deep, s.below, api.ErrTaken},
	}
	for _, none := range strangers(s.a.Len()) {
		for _, n := range []int{0, s.doctype, s.div, s.text, s.content, s.comment, s.loose, none} {
			l = append(l, refused{none, n, api.ErrNone}, refused{n, none, api.ErrNone})
		}
	}
	mustRefuse(t, "Append", func(s *scene, x, n int) api.Errno { return s.a.Append(x, n) }, l)
}

func TestBefore(t *testing.T) {
	for _, c := range []struct {
		ref  func(s *scene) int
		want func(s *scene) []int
	}{
		{func(s *scene) int { return s.text }, func(s *scene) []int { return []int{s.loose, s.text, s.template, s.comment, s.g} }},
		{func(s *scene) int { return s.template }, func(s *scene) []int { return []int{s.text, s.loose, s.template, s.comment, s.g} }},
		{func(s *scene) int { return s.comment }, func(s *scene) []int { return []int{s.text, s.template, s.loose, s.comment, s.g} }},
		{func(s *scene) int { return s.g }, func(s *scene) []int { return []int{s.text, s.template, s.comment, s.loose, s.g} }},
		{func(s *scene) int { return s.outer }, func(s *scene) []int { return []int{s.content, s.loose, s.outer} }},
		{func(s *scene) int { return s.inner }, func(s *scene) []int { return []int{s.loose, s.inner, s.innerText} }},
		{func(s *scene) int { return s.innerText }, func(s *scene) []int { return []int{s.inner, s.loose, s.innerText} }},
		{func(s *scene) int { return s.doctype }, func(s *scene) []int { return []int{s.loose, s.doctype, s.div} }},
		{func(s *scene) int { return s.div }, func(s *scene) []int { return []int{s.doctype, s.loose, s.div} }},
		{func(s *scene) int { return s.svgText }, func(s *scene) []int { return []int{s.loose, s.svgText} }},
		{func(s *scene) int { return s.besideLoose }, func(s *scene) []int { return []int{s.looseContent, s.loose, s.besideLoose} }},
	} {
		s := newScene()
		up, _ := s.a.Parent(c.ref(s))
		mustTell(t, "Before", s.a.Before(c.ref(s), s.loose), api.OK)
		mustHaveKids(t, s.a, up, c.want(s)...)
		mustHaveKids(t, s.a, s.loose, s.below)
		if n, ok := s.a.Content(s.template); n != s.content || !ok {
			t.Errorf("Content: %d, %v", n, ok)
		}
		mustTell(t, "again", s.a.Before(c.ref(s), s.loose), api.ErrTaken)
		// The next one comes between, and one more at the end.
		mustTell(t, "Before", s.a.Before(c.ref(s), s.looseText), api.OK)
		mustTell(t, "Append", s.a.Append(up, s.looseComment), api.OK)
		l := c.want(s)
		l = append(slices.Insert(l, slices.Index(l, c.ref(s)), s.looseText), s.looseComment)
		mustHaveKids(t, s.a, up, l...)
	}
}

func TestBeforeRefuses(t *testing.T) {
	s := newScene()
	l := []refused{
		{0, s.loose, api.ErrKind}, {s.content, s.loose, api.ErrKind}, {s.looseContent, s.loose, api.ErrKind},
		{s.looseText, s.loose, api.ErrKind}, {s.looseTemplate, s.loose, api.ErrKind}, {s.looseDoctype, s.loose, api.ErrKind},
		{s.text, 0, api.ErrKind}, {s.text, s.content, api.ErrKind}, {s.outer, s.content, api.ErrKind}, {s.inLoose, s.looseContent, api.ErrKind},
		{s.text, s.g, api.ErrTaken}, {s.inner, s.div, api.ErrTaken}, {s.below, s.text, api.ErrTaken}, {s.text, s.text, api.ErrTaken}, {s.comment, s.template, api.ErrTaken},
		{s.below, s.loose, api.ErrLoop}, {s.deep, s.loose, api.ErrLoop}, {s.inLoose, s.looseTemplate, api.ErrLoop}, {s.besideLoose, s.looseTemplate, api.ErrLoop},
		// Several faults at once: the one that comes first.
		{0, 0, api.ErrKind}, {s.content, s.content, api.ErrKind}, {s.looseText, s.looseText, api.ErrKind}, {s.loose, s.loose, api.ErrKind},
		{s.looseTemplate, s.inner, api.ErrKind}, {0, s.text, api.ErrKind}, {s.content, s.text, api.ErrKind}, {s.loose, 0, api.ErrKind}, {s.looseContent, s.looseTemplate, api.ErrKind},
		{s.text, s.div, api.ErrTaken}, {s.deep, s.below, api.ErrTaken}, {s.inner, s.template, api.ErrTaken},
	}
	for _, none := range strangers(s.a.Len()) {
		for _, n := range []int{0, s.doctype, s.div, s.text, s.content, s.comment, s.loose, none} {
			l = append(l, refused{none, n, api.ErrNone}, refused{n, none, api.ErrNone})
		}
	}
	mustRefuse(t, "Before", func(s *scene, x, n int) api.Errno { return s.a.Before(x, n) }, l)
}

func TestDetach(t *testing.T) {
	for _, c := range []struct {
		n    func(s *scene) int
		want func(s *scene) []int
	}{
		{func(s *scene) int { return s.text }, func(s *scene) []int { return []int{s.template, s.comment, s.g} }},
		{func(s *scene) int { return s.template }, func(s *scene) []int { return []int{s.text, s.comment, s.g} }},
		{func(s *scene) int { return s.comment }, func(s *scene) []int { return []int{s.text, s.template, s.g} }},
		{func(s *scene) int { return s.g }, func(s *scene) []int { return []int{s.text, s.template, s.comment} }},
		{func(s *scene) int { return s.outer }, func(s *scene) []int { return []int{s.content} }},
		{func(s *scene) int { return s.inner }, func(s *scene) []int { return []int{s.innerText} }},
		{func(s *scene) int { return s.svgText }, func(s *scene) []int { return nil }},
		{func(s *scene) int { return s.doctype }, func(s *scene) []int { return []int{s.div} }},
		{func(s *scene) int { return s.div }, func(s *scene) []int { return []int{s.doctype} }},
		{func(s *scene) int { return s.below }, func(s *scene) []int { return nil }},
	} {
		s := newScene()
		n := c.n(s)
		up, _ := s.a.Parent(n)
		own := s.p.pure(n)
		for range 2 {
			mustTell(t, "Detach", s.a.Detach(n), api.OK)
			mustHaveKids(t, s.a, up, c.want(s)...)
			mustBeLoose(t, s.a, n)
			mustBe(t, s.a, n, own)
		}
		mustTell(t, "Append again", s.a.Append(up, n), api.OK)
		mustHaveKids(t, s.a, up, append(c.want(s), n)...)
		mustTell(t, "Detach again", s.a.Detach(n), api.OK)
		mustTell(t, "Append of another", s.a.Append(up, s.looseText), api.OK)
		mustTell(t, "Before it", s.a.Before(s.looseText, n), api.OK)
		mustHaveKids(t, s.a, up, append(c.want(s), n, s.looseText)...)
	}
	s := newScene()
	for _, n := range []int{s.loose, s.looseText, s.looseComment, s.looseDoctype, s.looseTemplate, s.looseSVG} {
		mustTell(t, "Detach of a loose one", s.a.Detach(n), api.OK)
	}
	for _, n := range []int{0, s.content, s.looseContent} {
		mustTell(t, "Detach", s.a.Detach(n), api.ErrKind)
	}
	for _, n := range strangers(s.a.Len()) {
		mustTell(t, "Detach of none", s.a.Detach(n), api.ErrNone)
	}
	s.mustStay(t, "Detach")
}

func TestMove(t *testing.T) {
	s := newScene()
	a := s.a
	mustTell(t, "to one without kids", a.Move(s.div, s.deep), api.OK)
	mustHaveKids(t, a, s.div)
	mustHaveKids(t, a, s.deep, s.text, s.template, s.comment, s.g)
	mustTell(t, "from one without kids", a.Move(s.div, s.deep), api.OK)
	mustHaveKids(t, a, s.deep, s.text, s.template, s.comment, s.g)
	mustTell(t, "to one with kids", a.Move(s.deep, s.besideLoose), api.OK)
	mustTell(t, "to one with kids", a.Move(s.content, s.besideLoose), api.OK)
	mustHaveKids(t, a, s.besideLoose, s.text, s.template, s.comment, s.g, s.inner, s.innerText)
	mustHaveKids(t, a, s.content)
	mustTell(t, "of a template", a.Move(s.template, s.inner), api.OK)
	mustHaveKids(t, a, s.template, s.content)
	mustHaveKids(t, a, s.inner, s.outer)
	mustTell(t, "of a template without others", a.Move(s.template, s.inner), api.OK)
	mustHaveKids(t, a, s.template, s.content)
	mustTell(t, "to a template", a.Move(s.inner, s.template), api.OK)
	mustHaveKids(t, a, s.template, s.content, s.outer)
	mustTell(t, "to a Content", a.Move(s.svgTemplate, s.content), api.OK)
	mustHaveKids(t, a, s.content, s.svgText)
	mustTell(t, "from a template that is loose", a.Move(s.looseTemplate, s.loose), api.OK)
	mustHaveKids(t, a, s.looseTemplate, s.looseContent)
	mustHaveKids(t, a, s.loose, s.below, s.besideLoose)
	mustTell(t, "from the Document", a.Move(0, s.looseContent), api.OK)
	mustHaveKids(t, a, 0)
	mustHaveKids(t, a, s.looseContent, s.inLoose, s.doctype, s.div)
	mustTell(t, "to the Document", a.Move(s.looseContent, 0), api.OK)
	mustTell(t, "to the Document", a.Move(s.loose, 0), api.OK)
	mustHaveKids(t, a, 0, s.inLoose, s.doctype, s.div, s.below, s.besideLoose)
	if a.Len() != newScene().a.Len() {
		t.Errorf("Len: %d", a.Len())
	}
}

// TestMoveUp: to may stand above from, or beside it; what was moved can be hung and taken away as before.
func TestMoveUp(t *testing.T) {
	s := newScene()
	a := s.a
	mustTell(t, "to the parent", a.Move(s.g, s.div), api.OK)
	mustHaveKids(t, a, s.div, s.text, s.template, s.comment, s.g, s.svgTemplate)
	mustTell(t, "from a Content to its template", a.Move(s.content, s.template), api.OK)
	mustHaveKids(t, a, s.template, s.content, s.outer, s.inner, s.innerText)
	mustTell(t, "far up", a.Move(s.template, 0), api.OK)
	mustHaveKids(t, a, 0, s.doctype, s.div, s.outer, s.inner, s.innerText)
	mustHaveKids(t, a, s.template, s.content)
	// Texts that come to stand side by side stay two.
	mustTell(t, "to the one beside", a.Move(s.div, s.inner), api.OK)
	mustTell(t, "Detach", a.Detach(s.text), api.OK)
	mustTell(t, "Detach", a.Detach(s.svgTemplate), api.OK)
	mustTell(t, "Before", a.Before(s.g, s.svgTemplate), api.OK)
	mustTell(t, "Append", a.Append(s.inner, s.text), api.OK)
	mustTell(t, "Append", a.Append(s.inner, s.looseText), api.OK)
	mustHaveKids(t, a, s.inner, s.template, s.comment, s.svgTemplate, s.g, s.text, s.looseText)
}

func TestMoveRefuses(t *testing.T) {
	s := newScene()
	l := []refused{
		{s.text, s.div, api.ErrKind}, {s.div, s.text, api.ErrKind}, {s.comment, s.loose, api.ErrKind}, {s.loose, s.comment, api.ErrKind},
		{s.doctype, s.loose, api.ErrKind}, {s.loose, s.doctype, api.ErrKind}, {s.looseText, s.looseComment, api.ErrKind}, {0, s.doctype, api.ErrKind},
		{s.div, s.div, api.ErrLoop}, {0, 0, api.ErrLoop}, {s.content, s.content, api.ErrLoop}, {s.deep, s.deep, api.ErrLoop},
		{s.div, s.g, api.ErrLoop}, {s.div, s.svgTemplate, api.ErrLoop}, {s.div, s.inner, api.ErrLoop}, {0, s.div, api.ErrLoop}, {0, s.inner, api.ErrLoop},
		{s.template, s.content, api.ErrLoop}, {s.template, s.inner, api.ErrLoop}, {s.content, s.inner, api.ErrLoop}, {s.div, s.content, api.ErrLoop},
		{s.loose, s.below, api.ErrLoop}, {s.loose, s.deep, api.ErrLoop},
		// Several faults at once: the one that comes first.
		{s.text, s.text, api.ErrKind}, {s.looseComment, s.looseComment, api.ErrKind}, {s.div, s.comment, api.ErrKind}, {s.template, s.innerText, api.ErrKind},
	}
	for _, none := range strangers(s.a.Len()) {
		for _, n := range []int{0, s.doctype, s.div, s.text, s.content, s.comment, s.loose, none} {
			l = append(l, refused{none, n, api.ErrNone}, refused{n, none, api.ErrNone})
		}
	}
	mustRefuse(t, "Move", func(s *scene, x, n int) api.Errno { return s.a.Move(x, n) }, l)
}

// mustText asks for a Text with that number.
func mustText(t *testing.T, a *Arena, n int, want string) {
	t.Helper()
	mustBe(t, a, n, text(want))
}

func TestWrite(t *testing.T) {
	s := newScene()
	a := s.a
	next := a.Len()
	for _, c := range []struct {
		said   string
		parent int
		kids   []int // the last one is new
	}{
		{"without kids", s.deep, []int{next}},
		{"behind an Element", s.loose, []int{s.below, next + 1}},
		{"behind an Element of SVG", s.div, []int{s.text, s.template, s.comment, s.g, next + 2}},
		{"behind a Content", s.looseTemplate, []int{s.looseContent, s.besideLoose, next + 3}},
		{"within a Content", s.looseContent, []int{s.inLoose, next + 4}},
		{"under an Element of SVG", s.g, []int{s.svgTemplate, next + 5}},
	} {
		mustTell(t, c.said, a.Write(c.parent, "x"), api.OK)
		mustHaveKids(t, a, c.parent, c.kids...)
		mustText(t, a, a.Len()-1, "x")
		mustTell(t, c.said, a.Write(c.parent, ""), api.OK)
		mustTell(t, c.said, a.Write(c.parent, "y\xff"), api.OK)
		mustHaveKids(t, a, c.parent, c.kids...)
		mustText(t, a, a.Len()-1, "xy\xff")
	}
	size := a.Len()
	mustTell(t, "behind a Text", a.Write(s.content, "1"), api.OK)
	mustTell(t, "behind a Text", a.Write(s.template, "2"), api.OK)
	mustTell(t, "behind a Text", a.Write(s.svgTemplate, "3"), api.OK)
	mustText(t, a, s.innerText, "in1")
	mustText(t, a, s.outer, "out2")
	mustText(t, a, s.svgText, "s3")
	mustHaveKids(t, a, s.template, s.content, s.outer)
	if a.Len() != size || size != next+6 {
		t.Errorf("Len: %d, %d", size, a.Len())
	}
}

// TestWriteOfNothing: an empty text, or one under the Document, makes no node, whatever stands there.
func TestWriteOfNothing(t *testing.T) {
	s := newScene()
	for _, parent := range []int{0, s.div, s.g, s.template, s.content, s.loose, s.deep, s.looseContent, s.looseSVG} {
		mustTell(t, "Write of nothing", s.a.Write(parent, ""), api.OK)
	}
	mustTell(t, "Write", s.a.Write(0, "x"), api.OK)
	s.mustStay(t, "Write")
	mustTell(t, "Append", s.a.Append(0, s.looseText), api.OK)
	size := s.a.Len()
	mustTell(t, "Write", s.a.Write(0, "x"), api.OK)
	mustText(t, s.a, s.looseText, "lt")
	if s.a.Len() != size {
		t.Errorf("Len: %d", s.a.Len())
	}
}

// TestWriteIntoTextsThatWereMade: an empty Text goes on as well; a Text behind which another node comes does not.
func TestWriteIntoTextsThatWereMade(t *testing.T) {
	a := New()
	p := makeEl(t, a, "p")
	empty, _ := a.Make(api.TextNode, 0, "", nil, "")
	a.Append(p, empty)
	mustTell(t, "Write", a.Write(p, "x"), api.OK)
	mustText(t, a, empty, "x")
	b := makeEl(t, a, "b")
	a.Append(p, b)
	mustTell(t, "Write", a.Write(p, "y"), api.OK)
	mustHaveKids(t, a, p, empty, b, b+1)
	mustTell(t, "Detach", a.Detach(b+1), api.OK)
	mustTell(t, "Write", a.Write(p, "z"), api.OK)
	mustHaveKids(t, a, p, empty, b, b+2)
	mustText(t, a, b+1, "y")
	mustTell(t, "Detach", a.Detach(b), api.OK)
	mustTell(t, "Detach", a.Detach(b+2), api.OK)
	mustTell(t, "Write", a.Write(p, "w"), api.OK)
	mustHaveKids(t, a, p, empty)
	mustText(t, a, empty, "xw")
	// What was taken away is written on where it is hung next.
	mustTell(t, "Append", a.Append(b, b+1), api.OK)
	mustTell(t, "Write", a.Write(b, "v"), api.OK)
	mustText(t, a, b+1, "yv")
	if a.Len() != 6 {
		t.Errorf("Len: %d", a.Len())
	}
}

func TestWriteRefuses(t *testing.T) {
	s := newScene()
	for _, text := range []string{"", "x"} {
		for _, n := range strangers(s.a.Len()) {
			mustTell(t, "Write of none", s.a.Write(n, text), api.ErrNone)
			mustTell(t, "WriteBefore of none", s.a.WriteBefore(n, text), api.ErrNone)
		}
		for _, n := range []int{s.doctype, s.text, s.comment, s.outer, s.looseText, s.looseComment, s.looseDoctype} {
			mustTell(t, "Write", s.a.Write(n, text), api.ErrKind)
		}
		for _, n := range []int{0, s.content, s.looseContent, s.loose, s.looseText, s.looseComment, s.looseDoctype, s.looseTemplate, s.looseSVG} {
			mustTell(t, "WriteBefore", s.a.WriteBefore(n, text), api.ErrKind)
		}
	}
	s.mustStay(t, "what was refused")
}

func TestWriteBefore(t *testing.T) {
	s := newScene()
	a := s.a
	next := a.Len()
	for _, c := range []struct {
		said string
		ref  int
		at   int // the Text that is written
		was  string
		kids []int
	}{
		{"the first one, a Text itself", s.text, next, "", []int{next, s.text, s.template, s.comment, s.g}},
		{"behind a Text", s.template, s.text, "t", []int{next, s.text, s.template, s.comment, s.g}},
		{"in the middle", s.comment, next + 1, "", []int{next, s.text, s.template, next + 1, s.comment, s.g}},
		{"the last one", s.g, next + 2, "", []int{next, s.text, s.template, next + 1, s.comment, next + 2, s.g}},
		{"behind a Content", s.outer, next + 3, "", []int{s.content, next + 3, s.outer}},
		{"within a Content", s.inner, next + 4, "", []int{next + 4, s.inner, s.innerText}},
		{"a Text behind an Element", s.innerText, next + 5, "", []int{next + 4, s.inner, next + 5, s.innerText}},
		{"the only one", s.svgTemplate, next + 6, "", []int{next + 6, s.svgTemplate}},
		{"of a loose one", s.below, next + 7, "", []int{next + 7, s.below}},
	} {
		up, _ := a.Parent(c.ref)
		mustTell(t, c.said, a.WriteBefore(c.ref, "x"), api.OK)
		mustHaveKids(t, a, up, c.kids...)
		mustText(t, a, c.at, c.was+"x")
		mustTell(t, c.said, a.WriteBefore(c.ref, ""), api.OK)
		mustTell(t, c.said, a.WriteBefore(c.ref, "y\xff"), api.OK)
		mustHaveKids(t, a, up, c.kids...)
		mustText(t, a, c.at, c.was+"xy\xff")
	}
	if a.Len() != next+8 {
		t.Errorf("Len: %d, want %d", a.Len(), next+8)
	}
	mustText(t, a, s.outer, "out")
	mustText(t, a, s.innerText, "in")
	mustTell(t, "Detach", a.Detach(next+2), api.OK)
	mustTell(t, "behind a Detach", a.WriteBefore(s.g, "z"), api.OK)
	mustHaveKids(t, a, s.div, next, s.text, s.template, next+1, s.comment, next+8, s.g)
	mustText(t, a, next+2, "xy\xff")
	mustText(t, a, next+8, "z")
}

// TestWriteBeforeOfNothing: an empty text, or one under the Document, makes no node, whatever stands there.
func TestWriteBeforeOfNothing(t *testing.T) {
	s := newScene()
	for _, ref := range []int{s.doctype, s.div, s.text, s.template, s.comment, s.g, s.inner, s.innerText, s.outer, s.below, s.inLoose} {
		mustTell(t, "WriteBefore of nothing", s.a.WriteBefore(ref, ""), api.OK)
	}
	mustTell(t, "WriteBefore", s.a.WriteBefore(s.doctype, "x"), api.OK)
	mustTell(t, "WriteBefore", s.a.WriteBefore(s.div, "x"), api.OK)
	s.mustStay(t, "WriteBefore")
	mustTell(t, "Before", s.a.Before(s.div, s.looseText), api.OK)
	size := s.a.Len()
	mustTell(t, "WriteBefore", s.a.WriteBefore(s.div, "x"), api.OK)
	mustText(t, s.a, s.looseText, "lt")
	if s.a.Len() != size {
		t.Errorf("Len: %d", s.a.Len())
	}
}

func TestMore(t *testing.T) {
	for _, c := range []struct{ had, l []api.Attr }{
		{nil, nil},
		{nil, []api.Attr{{Name: "a", Value: "1"}, {Name: "a", Value: "2"}, {Name: "b"}}},
		{[]api.Attr{{Name: "a", Value: "1"}}, nil},
		{[]api.Attr{{Name: "a", Value: "1"}}, []api.Attr{}},
		{[]api.Attr{{Name: "a", Value: "1"}}, []api.Attr{{Name: "a", Value: "2"}}},
		{[]api.Attr{{Name: "a", Value: "1"}}, []api.Attr{{Name: "a", Value: "2"}, {Name: "b", Value: "3"}, {Name: "b", Value: "4"}}},
		{[]api.Attr{{Name: "b"}, {Name: "a"}}, []api.Attr{{Name: "d"}, {Name: "a", Value: "1"}, {Name: "c"}, {Name: "A"}}},
		{[]api.Attr{{Name: ""}}, []api.Attr{{Name: "", Value: "1"}, {Name: "\xff"}, {Name: "\uFFFD"}}},
	} {
		for _, label := range []api.Tree{el("p"), svg("g"), el("template"), svg("template")} {
			a := New()
			n, _ := a.Make(label.Kind, label.NS, label.Name, c.had, "")
			size := a.Len()
			want := attrs.More(c.had, c.l)
			for range 2 {
				mustTell(t, "More", a.More(n, c.l), api.OK)
				if x, _ := a.Node(n); brief(x) != brief(with(label, want...)) {
					t.Errorf("More(%v, %v): %s", c.had, c.l, brief(x))
				}
			}
			third := []api.Attr{{Name: "z", Value: "9"}, {Name: "a", Value: "9"}}
			want = attrs.More(want, third)
			mustTell(t, "More", a.More(n, third), api.OK)
			if x, _ := a.Node(n); brief(x) != brief(with(label, want...)) || a.Len() != size {
				t.Errorf("More(%v, %v), and again: %s", c.had, c.l, brief(x))
			}
		}
	}
}

func TestMoreRefuses(t *testing.T) {
	s := newScene()
	for _, l := range [][]api.Attr{nil, {{Name: "q", Value: "1"}}} {
		for _, n := range strangers(s.a.Len()) {
			mustTell(t, "More of none", s.a.More(n, l), api.ErrNone)
		}
		for _, n := range []int{0, s.doctype, s.text, s.comment, s.content, s.looseText, s.looseComment, s.looseDoctype, s.looseContent} {
			mustTell(t, "More", s.a.More(n, l), api.ErrKind)
		}
	}
	s.mustStay(t, "More")
}

func TestWhatIsAsked(t *testing.T) {
	s := newScene()
	for _, c := range []struct {
		n, parent int
		hangs     bool
		inner     int
		label     api.Tree
		kids      []int
	}{
		{0, 0, false, 0, doc(), []int{s.doctype, s.div}},
		{s.doctype, 0, true, 0, doctype("html"), nil},
		{s.div, 0, true, 0, with(el("div"), api.Attr{Name: "a", Value: "1"}), []int{s.text, s.template, s.comment, s.g}},
		{s.text, s.div, true, 0, text("t"), nil},
		{s.template, s.div, true, s.content, el("template"), []int{s.content, s.outer}},
		{s.content, s.template, true, 0, content(), []int{s.inner, s.innerText}},
		{s.inner, s.content, true, 0, el("p"), nil},
		{s.comment, s.div, true, 0, comment("c"), nil},
		{s.g, s.div, true, 0, with(svg("g"), api.Attr{Name: "x"}, api.Attr{Name: "y", Value: "2"}), []int{s.svgTemplate}},
		{s.svgTemplate, s.g, true, 0, svg("template"), []int{s.svgText}},
		{s.loose, 0, false, 0, el("p"), []int{s.below}},
		{s.deep, s.below, true, 0, el("i"), nil},
		{s.looseText, 0, false, 0, text("lt"), nil},
		{s.looseComment, 0, false, 0, comment("lc"), nil},
		{s.looseDoctype, 0, false, 0, doctype("ld"), nil},
		{s.looseTemplate, 0, false, s.looseContent, el("template"), []int{s.looseContent, s.besideLoose}},
		{s.looseContent, s.looseTemplate, true, 0, content(), []int{s.inLoose}},
		{s.looseSVG, 0, false, 0, svg("template"), nil},
	} {
		if got, ok := s.a.Parent(c.n); got != c.parent || ok != c.hangs {
			t.Errorf("Parent(%d): %d, %v", c.n, got, ok)
		}
		if got, ok := s.a.Content(c.n); got != c.inner || ok != (c.inner != 0) {
			t.Errorf("Content(%d): %d, %v", c.n, got, ok)
		}
		if got, ok := s.a.Node(c.n); !ok || brief(got) != brief(c.label) {
			t.Errorf("Node(%d): %s, %v", c.n, brief(got), ok)
		}
		mustHaveKids(t, s.a, c.n, c.kids...)
	}
	mustKnowNothingOf(t, s.a, strangers(s.a.Len())...)
}

func TestPure(t *testing.T) {
	s := newScene()
	inner := content(el("p"), text("in"))
	g := with(svg("g", svg("template", text("s"))), api.Attr{Name: "x"}, api.Attr{Name: "y", Value: "2"})
	div := with(el("div", text("t"), el("template", inner, text("out")), comment("c"), g), api.Attr{Name: "a", Value: "1"})
	mustBe(t, s.a, 0, doc(doctype("html"), div))
	mustBe(t, s.a, s.div, div)
	mustBe(t, s.a, s.template, el("template", inner, text("out")))
	mustBe(t, s.a, s.content, inner)
	mustBe(t, s.a, s.g, g)
	mustBe(t, s.a, s.text, text("t"))
	mustBe(t, s.a, s.comment, comment("c"))
	mustBe(t, s.a, s.doctype, doctype("html"))
	mustBe(t, s.a, s.loose, el("p", el("b", el("i"))))
	mustBe(t, s.a, s.looseTemplate, el("template", content(el("b")), el("u")))
	mustBe(t, s.a, s.looseText, text("lt"))
	s.mustStay(t, "Pure")
}

func TestQuirks(t *testing.T) {
	of, _ := Of(doc())
	for _, a := range []*Arena{New(), newScene().a, of} {
		if a.Quirky() {
			t.Error("quirky from the beginning on")
		}
		size := a.Len()
		for _, q := range []bool{true, true, false, false, true} {
			a.Quirks(q)
			if a.Quirky() != q || a.Len() != size {
				t.Errorf("Quirks(%v): %v, Len %d", q, a.Quirky(), a.Len())
			}
		}
		makeEl(t, a, "p")
		a.Append(0, size)
		a.Make(api.Document, 0, "", nil, "")
		if !a.Quirky() {
			t.Error("another call turns it")
		}
	}
}

func TestOf(t *testing.T) {
	x := doc(
		doctype("html"),
		comment(""),
		with(el("div",
			text("a"),
			el("template",
				content(text("b"), el("template", content(svg("template")), el("template", content(text("c"))))),
				text("d"),
			),
			svg("template", text("e")),
			text("f"),
		), api.Attr{Name: "a", Value: "1"}, api.Attr{Name: "A"}),
		doctype(""),
	)
	a, why := Of(x)
	if why != api.OK {
		t.Fatalf("Of: %v", why)
	}
	mustBe(t, a, 0, x)
	mustAgree(t, a, plainOf(x))
	if a.Len() != tree.Count(x) || a.Quirky() {
		t.Errorf("Len %d, want %d; Quirky %v", a.Len(), tree.Count(x), a.Quirky())
	}
	a, why = Of(doc())
	if why != api.OK || a.Len() != 1 {
		t.Fatalf("Of a Document alone: %v", why)
	}
	mustBe(t, a, 0, doc())
	a, why = Of(api.Tree{Kind: api.Document, Attrs: []api.Attr{}, Kids: []api.Tree{{Kind: api.CommentNode, Attrs: []api.Attr{}, Kids: []api.Tree{}}}})
	if why != api.OK {
		t.Fatalf("Of empty lists: %v", why)
	}
	mustBe(t, a, 0, doc(comment("")))
}

// TestOfGoesOn: with what Of made all calls go on as with what Make made.
func TestOfGoesOn(t *testing.T) {
	a, _ := Of(doc(el("p", text("a")), el("template", content(text("b")), el("i"))))
	for i, c := range []struct {
		got, want api.Errno
	}{
		{a.Write(1, "x"), api.OK}, {a.WriteBefore(6, "y"), api.OK}, {a.Write(4, "z"), api.OK}, {a.Detach(4), api.ErrKind},
		{a.Before(4, 6), api.ErrKind}, {a.Move(3, 4), api.ErrLoop}, {a.Move(3, 1), api.OK}, {a.More(1, []api.Attr{{Name: "q"}}), api.OK},
		{a.Append(6, 1), api.ErrTaken}, {a.Detach(1), api.OK}, {a.Append(6, 1), api.ErrLoop},
	} {
		mustTell(t, "call "+strconv.Itoa(i), c.got, c.want)
	}
	if n, ok := a.Content(3); n != 4 || !ok {
		t.Errorf("Content: %d, %v", n, ok)
	}
	mustBe(t, a, 0, doc(el("template", content(text("bz")))))
	mustBe(t, a, 1, with(el("p", text("ax"), text("y"), el("i")), api.Attr{Name: "q"}))
	if n := makeEl(t, a, "b"); n != 8 || a.Len() != 9 {
		t.Errorf("Make: %d, Len %d", n, a.Len())
	}
}

func TestOfRefuses(t *testing.T) {
	double := with(el("p"), api.Attr{Name: "a", Value: "1"}, api.Attr{Name: "b"}, api.Attr{Name: "a", Value: "2"})
	named := text("a")
	named.Name = "n"
	full := el("p")
	full.Text = "a"
	spaced := doctype("html")
	spaced.NS = api.HTML
	titled := doc()
	titled.Text = "a"
	below := []api.Tree{el("p")}
	below[0].Kids = below
	for _, x := range []api.Tree{
		{}, el("p"), text("a"), content(), doctype("html"), el("template", content()), titled,
		doc(text("a")), doc(doc()), doc(content()), doc(api.Tree{}), doc(api.Tree{Kind: 7}), doc(el("")), doc(api.Tree{Kind: api.Element, Name: "p"}),
		doc(api.Tree{Kind: api.Element, NS: 3, Name: "p"}), doc(double), doc(el("p", named)), doc(full), doc(spaced),
		doc(el("p", text(""))), doc(el("p", text("a"), text("b"))), doc(el("p", doctype(""))), doc(el("p", content())),
		doc(el("template")), doc(el("template", el("p"))), doc(el("template", el("p"), content())), doc(el("template", content(), content())),
		doc(svg("template", content())), doc(el("template", content(el("template")))), doc(el("p", api.Tree{Kind: api.CommentNode, Kids: []api.Tree{text("a")}})),
		doc(el("p"), el("p", el("p", doc()))), doc(below...),
	} {
		if tree.Right(x) {
			t.Errorf("%s is right", brief(x))
		}
		if a, why := Of(x); a != nil || why != api.ErrForm {
			t.Errorf("Of: %v, %v", a != nil, why)
		}
	}
}
