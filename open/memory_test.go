package open

import (
	"math"
	"slices"
	"testing"

	"arbour/api"
)

func attr(name, value string) api.Attr { return api.Attr{Name: name, Value: value} }

func TestNamesThatAreHandedInStay(t *testing.T) {
	names := []string{"x", "table", "p", "spare", "spare"}
	list, was := names[:3], slices.Clone(names)
	for said, do := range map[string]func(l *List[int]){
		"Scope": func(l *List[int]) { l.Scope(Any, list...) },
		"Until": func(l *List[int]) { l.Until(list...) },
		"Clear": func(l *List[int]) { l.Clear(list...) },
	} {
		for _, s := range []string{"html table p b", "html b", "b i u", ""} {
			do(made(t, s).ints)
			if !slices.Equal(names, was) {
				t.Errorf("%s changed what was handed in: %q", said, names)
			}
		}
	}
	// Nor is room behind the list read: spare is no name that is asked for.
	p := made(t, "html spare")
	mustBe(t, "Scope", p.scope(Any, list...), false)
	p.clear(list...)
	p.mustHold("Clear", "html")
	p = made(t, "p spare")
	mustBe(t, "Until", p.until(list...), 2)
}

func TestNamesAreNotKept(t *testing.T) {
	p := made(t, "html table p b i")
	list := []string{"b"}
	mustBe(t, "Until", p.until(list...), 2)
	list[0] = "html"
	mustBe(t, "Scope", p.scope(Any, "p"), true)
	list[0] = "table"
	p.clear("p")
	p.mustHold("Clear", "html table p")
	mustBe(t, "Until", p.until(), 3)
}

func TestNilAndEmptyNames(t *testing.T) {
	for _, list := range [][]string{nil, {}, make([]string, 0, 3)} {
		p := made(t, "html table p")
		for _, kind := range kinds {
			mustBe(t, "Scope", p.scope(kind, list...), false)
		}
		p.clear(list...)
		p.mustHold("Clear", "html")
		p.push(el("b#2"))
		mustBe(t, "Until", p.until(list...), 2)
		p.mustHold("Until", "")
	}
}

// TestHeldAsItIs: the attributes of an element are not copied, neither in nor out.
func TestHeldAsItIs(t *testing.T) {
	for said, put := range map[string]func(l *List[int], x Item[int]){
		"Push":    func(l *List[int], x Item[int]) { l.Push(x) },
		"Replace": func(l *List[int], x Item[int]) { l.Push(el("p#2")); l.Replace(2, x) },
		"After":   func(l *List[int], x Item[int]) { l.After(1, x) },
	} {
		a := append(make([]api.Attr, 0, 4), attr("a", "1"))
		l := made(t, "html").ints
		put(l, Item[int]{H: 3, NS: api.HTML, Name: "b", Attrs: a})
		a[0].Value = "2"
		for i, tell := range []func() (Item[int], bool){l.Top, func() (Item[int], bool) { return l.At(1) }, l.Pop} {
			x, ok := tell()
			if !ok || len(x.Attrs) != 1 || cap(x.Attrs) != 4 || &x.Attrs[0] != &a[0] {
				t.Errorf("%s, answer %d: %v", said, i, x)
			}
		}
		if a = a[:4]; a[1] != attr("", "") {
			t.Errorf("%s wrote behind a list: %v", said, a)
		}
	}
	l := New[int]()
	for _, a := range [][]api.Attr{nil, {}} {
		l.Push(Item[int]{Attrs: a})
		if x, ok := l.Pop(); !ok || (x.Attrs == nil) != (a == nil) {
			t.Errorf("%v is told as %v", a, x.Attrs)
		}
	}
}

// TestAnswersAreByThemselves: a name or a handle that is written into an answer, or into what was handed in, is not seen in the list.
func TestAnswersAreByThemselves(t *testing.T) {
	p := newPair(t)
	x := el("html#1")
	p.push(x)
	x.Name, x.H, x.NS = "turned", 99, 99
	p.after(1, el("p#2"))
	p.replace(2, el("b#3"))
	for _, tell := range []func() (Item[int], bool){p.ints.Top, func() (Item[int], bool) { return p.ints.At(0) }, func() (Item[int], bool) { return p.ints.At(1) }} {
		y, _ := tell()
		y.Name, y.H, y.NS, y.Attrs = "turned", 99, 99, []api.Attr{attr("a", "1")}
	}
	p.mustHold("answers were turned", "html#1 b#3")
	y, _ := p.ints.Pop()
	y.Name = "turned"
	p.ints.Push(el("b#3"))
	p.mustHold("what was popped was turned", "html#1 b#3")
}

func TestListsAreByThemselves(t *testing.T) {
	p, q := made(t, "html p"), made(t, "html p")
	p.push(el("b#3"))
	p.replace(1, el("table#4"))
	p.after(2, el("i#5"))
	p.mustHold("the one", "table#4 p#2 i#5 b#3")
	q.mustHold("the other", "html#1 p#2")
	p.until()
	q.mustHold("the other, the one being empty", "html#1 p#2")
	q.remove(1)
	q.imply("")
	p.mustHold("the one", "")
	// The same element may stand in both.
	x := el("p#7")
	p.push(x)
	q.push(x)
	p.replace(7, el("b#8"))
	p.mustHold("the one", "b#8")
	q.mustHold("the other", "p#7")
}

// TestWhatIsRefusedChangesNothing, however often, and in whatever order.
func TestWhatIsRefusedChangesNothing(t *testing.T) {
	p := made(t, "html p")
	for range 1000 {
		for _, h := range []int{0, -1, 3, math.MaxInt, math.MinInt} {
			if p.remove(h) || p.replace(h, el("b#1")) || p.after(h, el("b#1")) || p.place(h) != -1 {
				t.Fatalf("%d is there", h)
			}
		}
		for _, i := range outside(2) {
			if _, ok := p.at(i); ok {
				t.Fatalf("At(%d): true", i)
			}
		}
	}
	p.mustHold("refused calls", "html p")
	e := newPair(t)
	for range 1000 {
		e.pop()
		e.until("p")
	}
	e.push(el("p#1"))
	e.mustHold("Pop of none", "p#1")
}

// mustBeOne asks a list of one handle for each thing that is asked by a handle; other is not there.
func mustBeOne[H comparable](t *testing.T, h, other H) {
	t.Helper()
	l := New[H]()
	l.Push(Item[H]{H: h, NS: api.HTML, Name: "p"})
	mustBe(t, "Place of another", l.Place(other), -1)
	mustBe(t, "Remove of another", l.Remove(other), false)
	mustBe(t, "Place", l.Place(h), 0)
	mustBe(t, "After", l.After(h, Item[H]{H: other, NS: api.HTML, Name: "b"}), true)
	mustBe(t, "Place of the other", l.Place(other), 1)
	mustBe(t, "Replace", l.Replace(h, Item[H]{H: other}), true)
	mustBe(t, "Place", l.Place(h), -1)
	mustBe(t, "Remove of the other", l.Remove(other), true)
	mustBe(t, "Len", l.Len(), 1)
	x, ok := l.Pop()
	mustBe(t, "Pop", x.H, other)
	mustBe(t, "Pop", ok, true)
	x, ok = l.Pop()
	var zero H
	mustBe(t, "Pop of none", x.H, zero)
	mustBe(t, "Pop of none", ok, false)
}

func TestOtherHandles(t *testing.T) {
	mustBeOne(t, 0.5, 0)
	mustBeOne(t, true, false)
	mustBeOne(t, [2]string{"a", "b"}, [2]string{"a", ""})
	mustBeOne(t, struct{ a, b int }{1, 2}, struct{ a, b int }{2, 1})
	mustBeOne(t, new(int), new(int))
	mustBeOne(t, new(int), nil)
	mustBeOne[any](t, 1, "1")
	mustBeOne[any](t, nil, 0)
	mustBeOne[error](t, api.ErrArg, api.ErrLong)
	n := New[float64]()
	n.Push(Item[float64]{H: math.NaN()})
	mustBe(t, "Place of what is not the same as itself", n.Place(math.NaN()), -1)
	mustBe(t, "Remove of it", n.Remove(math.NaN()), false)
	s := New[struct{}]()
	s.Push(Item[struct{}]{Name: "a"})
	s.Push(Item[struct{}]{Name: "b"})
	mustBe(t, "Place of a handle that all have", s.Place(struct{}{}), 1)
}

// TestHandlesWithoutEquality: an interface may hold what Go cannot compare; no call panics, and it is nowhere.
func TestHandlesWithoutEquality(t *testing.T) {
	type wide struct {
		n    int
		more any
	}
	for _, h := range []any{[]int{1}, map[int]int{}, func() {}, wide{1, []int{}}, [1]any{[]int{}}} {
		l := New[any]()
		for _, one := range []any{1, h, wide{1, 2}, h, "x"} {
			l.Push(Item[any]{H: one, NS: api.HTML, Name: "p"})
		}
		mustBe(t, "Place", l.Place(h), -1)
		mustBe(t, "Remove", l.Remove(h), false)
		mustBe(t, "Replace", l.Replace(h, Item[any]{}), false)
		mustBe(t, "After", l.After(h, Item[any]{}), false)
		mustBe(t, "Len", l.Len(), 5)
		for i, one := range []any{1, wide{1, 2}, "x"} {
			mustBe(t, "Place of others beside", l.Place(one), 2*i)
		}
		mustBe(t, "Has", l.Has("p"), true)
		mustBe(t, "Until", l.Until("b"), 5)
	}
	w := New[wide]()
	w.Push(Item[wide]{H: wide{1, 2}})
	w.Push(Item[wide]{H: wide{1, []int{}}})
	mustBe(t, "Place", w.Place(wide{1, []int{}}), -1)
	mustBe(t, "Place of another", w.Place(wide{2, []int{}}), -1)
	mustBe(t, "Place of one with ==", w.Place(wide{1, 2}), 0)
}
