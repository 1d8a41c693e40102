package context

import (
	"math"
	"slices"
	"strings"
	"testing"
	"unsafe"

	"arbour/api"
	"arbour/open"
)

// TestNilLists: of a list that is none, what there is none of.
func TestNilLists(t *testing.T) {
	mustBeOfNone[int](t)
	mustBeOfNone[string](t)
	mustBeOfNone[any](t)
}

func mustBeOfNone[H comparable](t *testing.T) {
	t.Helper()
	for _, l := range []*open.List[H]{nil, open.New[H]()} {
		for _, s := range []string{"", "td", "tr", "html", "template", "~svg", "?x", "_"} {
			for _, m := range []int{math.MinInt, -1, 0, InTable, AfterAfterBody + 1, math.MaxInt} {
				for _, head := range []bool{false, true} {
					mustBe(t, "Reset in "+s, Reset(l, part(s), m, head), InBody)
				}
			}
			ns, name := Adjusted(l, part(s))
			mustBe(t, "Adjusted in "+s, ns, 0)
			mustBe(t, "Adjusted in "+s, name, "")
			mustBe(t, "Foreign in "+s, Foreign(l, part(s)), false)
		}
	}
}

// TestEmptiedLists are as those that never had anything.
func TestEmptiedLists(t *testing.T) {
	p := made(t, "html table tr")
	for range 3 {
		p.ints.Pop()
		p.texts.Pop()
	}
	mustBe(t, "Reset", p.reset("emptied", part("tr"), 7, true), InBody)
	mustBe(t, "Adjusted", p.current("emptied", part("~g")), "")
}

// TestZeroContext: it is a context, though not a right one, and stands for the first one.
func TestZeroContext(t *testing.T) {
	c := new(api.Context)
	p := made(t, "tr")
	mustBe(t, "Right", Right(*c), false)
	mustBe(t, "Reset", p.reset("zero", c, 7, true), InBody)
	mustBe(t, "Adjusted", p.current("zero", c), "")
	mustBe(t, "Lexer", Lexer(*c, true), api.Data)
	p = made(t, "html tr")
	mustBe(t, "Reset of two", p.reset("zero", c, 7, true), InRow)
	mustBe(t, "Adjusted of two", p.current("zero", c), "tr")
}

// TestWhatIsHandedInStays, its spare room, too.
func TestWhatIsHandedInStays(t *testing.T) {
	l := list("x=1 y=2 x=3 spare=4 spare=5")
	was := slices.Clone(l)
	c := api.Context{NS: api.HTML, Name: "td", Attrs: l[:3]}
	p := made(t, "html table tr ~svg")
	for range 3 {
		Right(c)
		Lexer(c, true)
		p.reset("all", &c, 3, true)
		p.current("all", &c)
	}
	if c.NS != api.HTML || c.Name != "td" || len(c.Attrs) != 3 || !slices.Equal(l, was) {
		t.Errorf("the context was changed: %v of %v", c, l)
	}
}

// TestAnswersAreByThemselves: the name shares no memory with the context's, nor with the list's.
func TestAnswersAreByThemselves(t *testing.T) {
	for _, given := range []string{"td", "\xff\xfe", strings.Repeat("x", 5000)} {
		c := &api.Context{NS: api.HTML, Name: strings.Clone(given)}
		l := open.New[int]()
		l.Push(open.Item[int]{NS: api.HTML, Name: strings.Clone(given)})
		for _, c := range []*api.Context{nil, c} {
			x, _ := l.At(0)
			if c != nil {
				x.Name = c.Name
			}
			_, name := Adjusted(l, c)
			mustBe(t, "Adjusted", name, given)
			if unsafe.StringData(name) == unsafe.StringData(x.Name) {
				t.Errorf("Adjusted hands out what it was given")
			}
		}
	}
}

// TestNilAndEmptyAttributes: both are none.
func TestNilAndEmptyAttributes(t *testing.T) {
	for _, a := range [][]api.Attr{nil, {}, make([]api.Attr, 0, 3), list("x=1 x=2")[:0]} {
		c := api.Context{NS: api.SVG, Name: "g", Attrs: a}
		mustBe(t, "Right", Right(c), true)
		mustBe(t, "Lexer", Lexer(c, true), api.Data)
		mustBe(t, "Adjusted", made(t, "html").current("none", &c), "~g")
		mustBe(t, "Reset", made(t, "html").reset("none", &c, 1, true), InBody)
	}
}

// TestNothingIsKept: what one list and context told says nothing of the next.
func TestNothingIsKept(t *testing.T) {
	p, q := made(t, "html table"), made(t, "html ~svg")
	for range 3 {
		mustBe(t, "the one", p.reset("the one", nil, 1, true), InTable)
		mustBe(t, "the other", q.reset("the other", nil, 1, true), AfterHead)
		mustBe(t, "the other in tr", q.reset("the other", part("tr"), 1, true), InRow)
		mustBe(t, "the one", p.current("the one", part("~g")), "table")
		mustBe(t, "the other", q.current("the other", part("p")), "~svg")
	}
}

// mustBeOf asks all of lists with these handles, which no call looks at.
func mustBeOf[H comparable](t *testing.T, h, other H) {
	t.Helper()
	l := open.New[H]()
	l.Push(open.Item[H]{H: h, NS: api.HTML, Name: "html"})
	mustBe(t, "Reset of html", Reset(l, nil, 1, true), AfterHead)
	mustBe(t, "Reset in tr", Reset(l, part("tr"), 1, true), InRow)
	mustBe(t, "Foreign in SVG", Foreign(l, part("~g")), true)
	l.Push(open.Item[H]{H: other, NS: api.HTML, Name: "td"})
	l.Push(open.Item[H]{H: h, NS: api.SVG, Name: "svg"})
	mustBe(t, "Reset of td", Reset(l, nil, 1, true), InCell)
	mustBe(t, "Foreign", Foreign(l, part("p")), true)
	ns, name := Adjusted(l, part("p"))
	mustBe(t, "Adjusted", spelt(ns, name), "~svg")
}

func TestOtherHandles(t *testing.T) {
	mustBeOf(t, 0, 0)
	mustBeOf(t, "", "")
	mustBeOf(t, math.NaN(), 0)
	mustBeOf(t, true, false)
	mustBeOf(t, struct{}{}, struct{}{})
	mustBeOf(t, [2]string{"a", "b"}, [2]string{})
	mustBeOf(t, new(int), nil)
	mustBeOf[any](t, nil, 1)
	// What has no == is no trouble, because no handle is held against another.
	mustBeOf[any](t, []int{1}, map[int]int{})
	mustBeOf[any](t, func() {}, []int{1})
	mustBeOf[error](t, api.ErrArg, nil)
}
