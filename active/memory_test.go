package active

import (
	"math"
	"slices"
	"testing"

	"arbour/api"
)

func attr(name, value string) api.Attr { return api.Attr{Name: name, Value: value} }

// ways to hand attributes in.
func entering() map[string]func(l *List[int], h int, a []api.Attr) {
	return map[string]func(l *List[int], h int, a []api.Attr){
		"Push": func(l *List[int], h int, a []api.Attr) { l.Push(h, "b", a) },
		"Put":  func(l *List[int], h int, a []api.Attr) { l.Put(l.Len(), h, "b", a) },
	}
}

// ways to have the last entry told.
func telling(l *List[int]) map[string]func() (Entry[int], bool) {
	return map[string]func() (Entry[int], bool){
		"At":   func() (Entry[int], bool) { return l.At(l.Len() - 1) },
		"Find": func() (Entry[int], bool) { return l.Find("b") },
	}
}

// TestWhatIsHandedInStays, and so does its spare room.
func TestWhatIsHandedInStays(t *testing.T) {
	for said, enter := range entering() {
		whole := []api.Attr{attr("y", "1"), attr("x", "2"), attr("y", "3"), attr("spare", "4"), attr("spare", "5")}
		was := slices.Clone(whole)
		l := New[int]()
		for range 5 {
			enter(l, 1, whole[:3])
		}
		for said, tell := range telling(l) {
			x, _ := tell()
			if !slices.Equal(x.Attrs, was[:3]) {
				t.Errorf("%s: %v", said, x.Attrs)
			}
			x.Attrs = append(x.Attrs, attr("turned", ""))
			x.Attrs[0].Name = "turned"
		}
		if !slices.Equal(whole, was) {
			t.Errorf("%s changed what was handed in: %v", said, whole)
		}
	}
}

// TestSpareRoomIsNotRead: two lists that differ behind their ends alone are alike.
func TestSpareRoomIsNotRead(t *testing.T) {
	l := New[int]()
	for i, spare := range []string{"a", "b", "c", "d"} {
		whole := []api.Attr{attr("x", "1"), attr(spare, "2")}
		l.Push(i+1, "b", whole[:1])
	}
	mustBe(t, "Len", l.Len(), 3)
	mustBe(t, "Place of the first", l.Place(1), -1)
	for i, spare := range []string{"a", "b", "c", "d"} {
		whole := []api.Attr{attr(spare, "2")}
		l.Push(i+5, "i", whole[:0])
	}
	mustBe(t, "Len", l.Len(), 6)
}

// TestAttributesAreNotKept: what is written into a list that was handed in is not seen in the entry.
func TestAttributesAreNotKept(t *testing.T) {
	for said, enter := range entering() {
		l := New[int]()
		a := append(make([]api.Attr, 0, 4), attr("x", "1"), attr("y", "2"))
		enter(l, 1, a)
		a[0], a[1] = attr("turned", "9"), attr("turned", "9")
		a = append(a, attr("more", ""))
		for how, tell := range telling(l) {
			x, ok := tell()
			if want := list("x=1 y=2"); !ok || !slices.Equal(x.Attrs, want) {
				t.Errorf("%s, %s: %v, want %v", said, how, x.Attrs, want)
			}
		}
		// What was written later is not asked either when a further one is pushed.
		enter(l, 2, list("x=1 y=2"))
		enter(l, 3, list("y=2 x=1"))
		l.Push(4, "b", list("x=1 y=2"))
		mustBe(t, "Place of the first", l.Place(1), -1)
		mustBe(t, "Len", l.Len(), 3)
		for range 4 {
			l.Push(5, "b", a)
		}
		mustBe(t, "Len", l.Len(), 6)
	}
}

// TestAnswersAreByThemselves: what is written into an answer, or behind its lists, is not seen in the list, nor in another answer.
func TestAnswersAreByThemselves(t *testing.T) {
	for said, enter := range entering() {
		l := New[int]()
		enter(l, 1, list("x=1 y=2 z=3"))
		for how, tell := range telling(l) {
			x, _ := tell()
			y, _ := tell()
			x.Name, x.H, x.Marker = "turned", 99, true
			x.Attrs[0] = attr("turned", "9")
			_ = append(x.Attrs[:1], attr("turned", "9"))
			for _, a := range x.Attrs[:cap(x.Attrs)][len(x.Attrs):] {
				if a != attr("", "") {
					t.Errorf("%s, %s: %v in the room behind", said, how, a)
				}
			}
			if want := "b#1[x=1][y=2][z=3]"; text(y) != want {
				t.Errorf("%s, %s: another answer: %s", said, how, text(y))
			}
			z, ok := tell()
			if want := "b#1[x=1][y=2][z=3]"; !ok || text(z) != want || z.Marker {
				t.Errorf("%s, %s: %s, want %s", said, how, text(z), want)
			}
		}
	}
}

// TestOneListForManyEntries: entries that were given one list share none.
func TestOneListForManyEntries(t *testing.T) {
	l := New[int]()
	a := list("x=1")
	l.Push(1, "b", a)
	l.Push(2, "b", a)
	l.Put(0, 3, "b", a)
	x, _ := l.At(0)
	y, _ := l.At(1)
	z, _ := l.At(2)
	x.Attrs[0].Value, y.Attrs[0].Value = "7", "8"
	mustBe(t, "the third one's", z.Attrs[0].Value, "1")
	mustBe(t, "what was handed in", a[0].Value, "1")
	for i := range 3 {
		x, _ := l.At(i)
		mustBe(t, "what the list has", x.Attrs[0].Value, "1")
	}
}

// TestNilAndEmptyAttributes: both are none, to Push as well.
func TestNilAndEmptyAttributes(t *testing.T) {
	none := [][]api.Attr{nil, {}, make([]api.Attr, 0, 3), list("x=1")[:0]}
	for said, enter := range entering() {
		for _, a := range none {
			l := New[int]()
			enter(l, 1, a)
			for how, tell := range telling(l) {
				if x, ok := tell(); !ok || len(x.Attrs) != 0 || x.Name != "b" || x.H != 1 {
					t.Errorf("%s, %s: %v, %v", said, how, x, ok)
				}
			}
		}
	}
	for _, first := range none {
		l := New[int]()
		l.Push(1, "b", first)
		for i, a := range none {
			l.Push(i+2, "b", a)
		}
		mustBe(t, "Len", l.Len(), 3)
		mustBe(t, "Place of the first that stayed", l.Place(3), 0)
	}
}

func TestListsAreByThemselves(t *testing.T) {
	p, q := made(t, "b#1 | i#2"), made(t, "b#1 | i#2")
	p.push("i#3 i#4 i#5")
	p.replace(1, 9)
	p.put(1, "u#6")
	p.mustHold("the one", "b#9 u#6 | i#3 i#4 i#5")
	q.mustHold("the other", "b#1 | i#2")
	p.clear()
	p.clear()
	q.mustHold("the other, the one being empty", "b#1 | i#2")
	q.remove(1)
	q.mark()
	p.mustHold("the one", "")
	q.push("b#3 b#4 b#5")
	p.push("b#3")
	p.mustHold("the one", "b#3")
	q.mustHold("the other", "| i#2 | b#3 b#4 b#5")
}

// TestWhatIsRefusedChangesNothing, however often, and in whatever order.
func TestWhatIsRefusedChangesNothing(t *testing.T) {
	const there = "b#1 | i#2[x=1]"
	p := made(t, there)
	for range 1000 {
		for _, h := range []int{0, -1, 3, math.MaxInt, math.MinInt} {
			if p.remove(h) || p.replace(h, 1) || p.place(h) != -1 {
				t.Fatalf("%d is there", h)
			}
		}
		for _, i := range outside(3) {
			if _, ok := p.at(i); ok {
				t.Fatalf("At(%d): true", i)
			}
		}
		if _, ok := p.find("b"); ok {
			t.Fatal("Find sees what is ahead of the marker")
		}
	}
	p.mustHold("refused calls", there)
	e := newPair(t)
	for range 1000 {
		e.clear()
	}
	e.push("b#1")
	e.mustHold("Clear of none", "b#1")
}

// mustBeOne asks a list of one handle for each thing that is asked by a handle; other is not there.
func mustBeOne[H comparable](t *testing.T, h, other H) {
	t.Helper()
	l := New[H]()
	l.Mark()
	l.Push(h, "b", list("x=1"))
	l.Mark()
	mustBe(t, "Place of another", l.Place(other), -1)
	mustBe(t, "Remove of another", l.Remove(other), false)
	mustBe(t, "Replace of another", l.Replace(other, h), false)
	mustBe(t, "Place", l.Place(h), 1)
	l.Put(2, other, "i", nil)
	mustBe(t, "Place of the other", l.Place(other), 2)
	l.Clear()
	mustBe(t, "From", l.From(func(x H) bool { return x == h }), 2)
	x, ok := l.Find("i")
	mustBe(t, "Find", x.H, other)
	mustBe(t, "Find", ok, true)
	mustBe(t, "Replace", l.Replace(h, other), true)
	mustBe(t, "Place", l.Place(h), -1)
	mustBe(t, "Remove of the other", l.Remove(other), true)
	x, ok = l.At(1)
	mustBe(t, "At", x.H, other)
	mustBe(t, "At", x.Name, "b")
	mustBe(t, "At", ok, true)
	x, ok = l.At(2)
	var zero H
	mustBe(t, "At of none", x.H, zero)
	mustBe(t, "At of none", ok, false)
	x, ok = l.At(0)
	mustBe(t, "At of a marker", x.H, zero)
	mustBe(t, "At of a marker", ok && x.Marker, true)
}

func TestOtherHandles(t *testing.T) {
	mustBeOne(t, 0.5, 0)
	mustBeOne(t, true, false)
	mustBeOne(t, [2]string{"a", "b"}, [2]string{"a", ""})
	mustBeOne(t, struct{ a, b int }{1, 2}, struct{ a, b int }{2, 1})
	mustBeOne(t, new(int), new(int))
	mustBeOne(t, new(int), nil)
	mustBeOne[any](t, 1, "1")
	mustBeOne[any](t, nil, 0)
	mustBeOne[error](t, api.ErrArg, api.ErrLong)
	n := New[float64]()
	n.Push(math.NaN(), "b", nil)
	mustBe(t, "Place of what is not the same as itself", n.Place(math.NaN()), -1)
	mustBe(t, "Remove of it", n.Remove(math.NaN()), false)
	s := New[struct{}]()
	s.Push(struct{}{}, "a", nil)
	s.Push(struct{}{}, "b", nil)
	s.Mark()
	mustBe(t, "Place of a handle that all have", s.Place(struct{}{}), 1)
}

// TestHandlesWithoutEquality: an interface may hold what Go cannot compare; no call panics, and it is nowhere.
func TestHandlesWithoutEquality(t *testing.T) {
	type wide struct {
		n    int
		more any
	}
	for _, h := range []any{[]int{1}, map[int]int{}, func() {}, wide{1, []int{}}, [1]any{[]int{}}} {
		l := New[any]()
		for _, one := range []any{1, h, wide{1, 2}, h, "x"} {
			l.Put(9, one, "b", nil)
		}
		mustBe(t, "Place", l.Place(h), -1)
		mustBe(t, "Remove", l.Remove(h), false)
		mustBe(t, "Replace", l.Replace(h, 1), false)
		mustBe(t, "Len", l.Len(), 5)
		for i, one := range []any{1, wide{1, 2}, "x"} {
			mustBe(t, "Place of others beside", l.Place(one), 2*i)
		}
		mustBe(t, "From", l.From(func(x any) bool { return x == h }), 0)
		mustBe(t, "Replace with it", l.Replace("x", h), true)
		mustBe(t, "Place of what was replaced", l.Place("x"), -1)
		l.Push(h, "b", nil)
		mustBe(t, "Len", l.Len(), 5)
	}
}
