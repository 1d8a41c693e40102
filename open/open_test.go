package open

import (
	"math"
	"slices"
	"strconv"
	"testing"

	"arbour/api"
)

// outside are the places that a list of n has none at.
func outside(n int) []int {
	return []int{n, n + 1, n + 1000, math.MaxInt, -1, -2, -n - 1, math.MinInt}
}

func TestEmptyList(t *testing.T) {
	p := newPair(t)
	p.mustHold("New", "")
	for _, i := range append(outside(0), 0) {
		if x, ok := p.at(i); ok {
			t.Errorf("At(%d): %s", i, text(x))
		}
	}
	if x, ok := p.top(); ok {
		t.Errorf("Top: %s", text(x))
	}
	if x, ok := p.pop(); ok {
		t.Errorf("Pop: %s", text(x))
	}
	// 0 is what an int that nobody set is: it is a handle as any other, and none is there.
	for _, h := range []int{0, 1, -1} {
		mustBe(t, "Place", p.place(h), -1)
		mustBe(t, "Remove", p.remove(h), false)
		mustBe(t, "Replace", p.replace(h, el("p#1")), false)
		mustBe(t, "After", p.after(h, el("p#1")), false)
	}
	mustBe(t, "Has(p)", p.has("p"), false)
	mustBe(t, "Has of an empty name", p.has(""), false)
	for kind := -1; kind <= 6; kind++ {
		mustBe(t, "Scope", p.scope(kind, "p"), false)
		mustBe(t, "Scope of an empty name", p.scope(kind, ""), false)
		mustBe(t, "Scope of no names", p.scope(kind), false)
	}
	mustBe(t, "Until(p)", p.until("p"), 0)
	mustBe(t, "Until of no names", p.until(), 0)
	p.imply("p")
	p.imply("")
	p.thorough()
	p.clear("p")
	p.clear()
	p.mustHold("what is asked of an empty list", "")
	p.push(el("p#1"))
	p.mustHold("Push behind all that", "p#1")
}

func TestPushAndPop(t *testing.T) {
	p := newPair(t)
	p.push(el("html#4"))
	p.mustHold("one", "html#4")
	p.push(el("~svg#4"))
	p.mustHold("two", "html#4 ~svg#4")
	p.push(el("?_#-9"))
	p.push(el("p#0"))
	p.mustHold("four", "html#4 ~svg#4 ?_#-9 p#0")
	for _, want := range []string{"p#0", "?_#-9", "~svg#4", "html#4"} {
		top, ok := p.top()
		mustBe(t, "Top", text(top), want)
		mustBe(t, "Top", ok, true)
		x, ok := p.pop()
		mustBe(t, "Pop", text(x), want)
		mustBe(t, "Pop", ok, true)
	}
	p.mustHold("all are popped", "")
	p.push(el("b#1"))
	p.mustHold("one again", "b#1")
}

func TestAtEachPlace(t *testing.T) {
	p := made(t, "html body p b i")
	p.pop() // leaves room behind the length, which must not be read
	for i, want := range els("html body p b") {
		x, ok := p.at(i)
		mustBe(t, "At", text(x), text(want))
		mustBe(t, "At", ok, true)
	}
	for _, i := range outside(4) {
		if x, ok := p.at(i); ok {
			t.Errorf("At(%d): %s", i, text(x))
		}
	}
	p.mustHold("At", "html body p b")
}

func TestPlace(t *testing.T) {
	p := made(t, "html#5 body#7 p#5 ~p#9 b#0 p#9")
	for h, want := range map[int]int{5: 2, 7: 1, 9: 5, 0: 4, 1: -1, -1: -1, 6: -1, math.MaxInt: -1, math.MinInt: -1} {
		mustBe(t, "Place("+strconv.Itoa(h)+")", p.place(h), want)
	}
	for _, want := range []int{3, -1} {
		p.remove(9)
		mustBe(t, "Place(9), one removed", p.place(9), want)
	}
	p.pop()
	mustBe(t, "Place of what was popped", p.place(0), -1)
	p.mustHold("Place", "html#5 body#7 p#5")
}

// handleCase is a call of a handle, with an element or none, and what the list is then.
type handleCase struct {
	list string
	h    int
	x    string
	ok   bool
	want string
}

func TestRemove(t *testing.T) {
	for _, c := range []handleCase{
		{"html body p b", 5, "", false, "html#1 body#2 p#3 b#4"},
		{"html body p b", 0, "", false, "html#1 body#2 p#3 b#4"},
		{"html body p b", -1, "", false, "html#1 body#2 p#3 b#4"},
		{"html body p b", 1, "", true, "body#2 p#3 b#4"},
		{"html body p b", 2, "", true, "html#1 p#3 b#4"},
		{"html body p b", 3, "", true, "html#1 body#2 b#4"},
		{"html body p b", 4, "", true, "html#1 body#2 p#3"},
		{"html", 1, "", true, ""},
		{"html#7 body#8 p#7 b#9", 7, "", true, "html#7 body#8 b#9"},
		{"html#7 body#7 p#7", 7, "", true, "html#7 body#7"},
		{"html#7 ~body#7", 7, "", true, "html#7"},
	} {
		p := made(t, c.list)
		mustBe(t, c.list+": Remove", p.remove(c.h), c.ok)
		p.mustHold(c.list+": Remove", c.want)
	}
}

func TestReplace(t *testing.T) {
	for _, c := range []handleCase{
		{"html body p b", 5, "i#9", false, "html#1 body#2 p#3 b#4"},
		{"html body p b", 5, "i#4", false, "html#1 body#2 p#3 b#4"},
		{"html body p b", -1, "i#9", false, "html#1 body#2 p#3 b#4"},
		{"html body p b", 1, "i#9", true, "i#9 body#2 p#3 b#4"},
		{"html body p b", 2, "~i#9", true, "html#1 ~i#9 p#3 b#4"},
		{"html body p b", 4, "?_#9", true, "html#1 body#2 p#3 ?_#9"},
		{"html", 1, "i#9", true, "i#9"},
		{"html#7 body#8 p#7 b#9", 7, "i#6", true, "html#7 body#8 i#6 b#9"},
		// Handles that are there already: its own, and another one's.
		{"html body p b", 3, "i#3", true, "html#1 body#2 i#3 b#4"},
		{"html body p b", 3, "p#3", true, "html#1 body#2 p#3 b#4"},
		{"html body p b", 3, "i#1", true, "html#1 body#2 i#1 b#4"},
		{"html body p b", 1, "i#4", true, "i#4 body#2 p#3 b#4"},
	} {
		p := made(t, c.list)
		mustBe(t, c.list+": Replace", p.replace(c.h, el(c.x)), c.ok)
		p.mustHold(c.list+": Replace by "+c.x, c.want)
	}
}

func TestAfter(t *testing.T) {
	for _, c := range []handleCase{
		{"html body p b", 5, "i#9", false, "html#1 body#2 p#3 b#4"},
		{"html body p b", 5, "i#4", false, "html#1 body#2 p#3 b#4"},
		{"html body p b", -1, "i#9", false, "html#1 body#2 p#3 b#4"},
		{"html body p b", 1, "i#9", true, "html#1 i#9 body#2 p#3 b#4"},
		{"html body p b", 2, "~i#9", true, "html#1 body#2 ~i#9 p#3 b#4"},
		{"html body p b", 4, "?_#9", true, "html#1 body#2 p#3 b#4 ?_#9"},
		{"html", 1, "i#9", true, "html#1 i#9"},
		{"html#7 body#8 p#7 b#9", 7, "i#6", true, "html#7 body#8 p#7 i#6 b#9"},
		{"html body p b", 3, "i#3", true, "html#1 body#2 p#3 i#3 b#4"},
		{"html body p b", 3, "i#1", true, "html#1 body#2 p#3 i#1 b#4"},
		{"html body p b", 1, "i#4", true, "html#1 i#4 body#2 p#3 b#4"},
	} {
		p := made(t, c.list)
		mustBe(t, c.list+": After", p.after(c.h, el(c.x)), c.ok)
		p.mustHold(c.list+": After "+c.x, c.want)
	}
}

// TestHandleThatIsThereTwice: what has come in with a handle that was there is what that handle means, where it lies above.
func TestHandleThatIsThereTwice(t *testing.T) {
	p := made(t, "html body p b")
	p.after(1, el("i#1"))
	mustBe(t, "Place", p.place(1), 1)
	p.after(1, el("u#8"))
	p.mustHold("After of the upper one", "html#1 i#1 u#8 body#2 p#3 b#4")
	p.replace(4, el("a#1"))
	mustBe(t, "Place", p.place(1), 5)
	mustBe(t, "Place of what was replaced", p.place(4), -1)
	for _, want := range []string{"html#1 i#1 u#8 body#2 p#3", "html#1 u#8 body#2 p#3", "u#8 body#2 p#3"} {
		mustBe(t, "Remove", p.remove(1), true)
		p.mustHold("Remove", want)
	}
	mustBe(t, "Remove of none", p.remove(1), false)
}

func TestHas(t *testing.T) {
	for _, c := range []struct {
		list, name string
		want       bool
	}{
		{"html body p", "html", true}, {"html body p", "body", true}, {"html body p", "p", true}, {"html body p", "b", false},
		{"html body p", "P", false}, {"html body p", "bod", false}, {"html body p", "bodyp", false}, {"html body p", "", false}, {"html body p", "html body", false},
		{"html ~p", "p", false}, {"html ?p", "p", false}, {"html ~p p", "p", true}, {"p ~p", "p", true}, {"html ~svg ~title", "title", false}, {"title ~svg", "title", true},
		{"p p p", "p", true}, {"html table td template p", "html", true},
		{"html _", "", true}, {"html ~_", "", false}, {"_ html", "", true}, {"html _", "_", false},
		{"\xff", "\xff", true}, {"\xff", "\ufffd", false},
	} {
		p := made(t, c.list)
		mustBe(t, c.list+": Has("+c.name+")", p.has(c.name), c.want)
		p.mustHold("Has", c.list)
	}
	p := made(t, "html p")
	p.pop()
	mustBe(t, "Has of what was popped", p.has("p"), false)
	p.push(el("~p#1"))
	mustBe(t, "Has of SVG alone", p.has("p"), false)
	p.replace(1, el("p#1"))
	mustBe(t, "Has of what has come in", p.has("p"), true)
}

// TestAllOfAnElement: handle, namespace, name and attributes are told as they came in, by whichever call that was.
func TestAllOfAnElement(t *testing.T) {
	a := []api.Attr{{Name: "b", Value: "2"}, {Name: "a", Value: "1"}, {Name: "b", Value: "3"}, {}}
	whole := Item[int]{H: -7, NS: 77, Name: "\x00 A\xff", Attrs: a}
	for said, put := range map[string]func(p pair){
		"Push":    func(p pair) { p.push(whole) },
		"Replace": func(p pair) { p.push(el("p#2")); p.replace(2, whole) },
		"After":   func(p pair) { p.after(1, whole) },
	} {
		p := made(t, "html")
		put(p)
		p.push(el("b#3"))
		x, ok := p.at(1)
		if !ok || x.H != -7 || x.NS != 77 || x.Name != "\x00 A\xff" || !slices.Equal(x.Attrs, a) {
			t.Errorf("%s, At: %+v", said, x)
		}
		p.pop()
		if x, ok := p.top(); !ok || text(x) != text(whole) {
			t.Errorf("%s, Top: %+v", said, x)
		}
		if x, ok := p.pop(); !ok || text(x) != text(whole) {
			t.Errorf("%s, Pop: %+v", said, x)
		}
	}
}

func TestManyElements(t *testing.T) {
	const n = 100000
	p := newPair(t)
	for i := range n {
		p.push(Item[int]{H: i, NS: api.HTML, Name: "b"})
	}
	mustBe(t, "Len", p.length(), n)
	mustBe(t, "Place of the bottom", p.place(0), 0)
	mustBe(t, "Place of none", p.place(n), -1)
	mustBe(t, "Scope of none", p.scope(Buttons, "p"), false)
	mustBe(t, "Has of none", p.has("p"), false)
	mustBe(t, "Replace", p.replace(0, el("p#0")), true)
	mustBe(t, "Scope of the bottom", p.scope(Buttons, "p"), true)
	mustBe(t, "After", p.after(0, el("table#-1")), true)
	mustBe(t, "Scope of the bottom, bounded", p.scope(Buttons, "p"), false)
	p.clear("table")
	mustBe(t, "Clear", p.length(), 2)
	for i := range n {
		p.push(Item[int]{H: i, NS: api.HTML, Name: "li"})
	}
	p.imply("")
	mustBe(t, "Imply", p.length(), 2)
	for i := range n {
		p.push(Item[int]{H: i, NS: api.HTML, Name: "tr"})
	}
	p.thorough()
	mustBe(t, "Thorough", p.length(), 2)
	for i := range n {
		p.push(Item[int]{H: i, NS: api.SVG, Name: "p"})
	}
	mustBe(t, "Until", p.until("p"), n+2)
	p.mustHold("Until", "")
}
