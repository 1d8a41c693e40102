package active

import (
	"strconv"
	"testing"

	"arbour/api"
)

const many = 1 << 14

// TestManyEntries: none goes of those that differ, and each is where it was put.
func TestManyEntries(t *testing.T) {
	l := New[int]()
	for i := range many {
		l.Push(i, "b"+strconv.Itoa(i), nil)
	}
	mustBe(t, "Len", l.Len(), many)
	for _, i := range []int{0, 1, many / 2, many - 1} {
		x, ok := l.At(i)
		mustBe(t, "At", x.H, i)
		mustBe(t, "At", ok, true)
		mustBe(t, "Place", l.Place(i), i)
		x, ok = l.Find("b" + strconv.Itoa(i))
		mustBe(t, "Find", x.H, i)
		mustBe(t, "Find", ok, true)
	}
	mustBe(t, "From", l.From(func(h int) bool { return h == 7 }), 8)
	mustBe(t, "From", l.From(func(int) bool { return false }), 0)
	mustBe(t, "Remove", l.Remove(0), true)
	mustBe(t, "Place", l.Place(many-1), many-2)
	l.Put(0, -1, "i", nil)
	mustBe(t, "Place", l.Place(many-1), many-1)
	l.Clear()
	mustBe(t, "Len", l.Len(), 0)
}

// TestManyOfOneName differ in their attributes: none goes, and it takes no longer than to go through them.
func TestManyOfOneName(t *testing.T) {
	const some = many / 8
	l := New[int]()
	for round := range 4 {
		for i := range some {
			l.Push(i, "b", []api.Attr{{Name: "x", Value: strconv.Itoa(i)}})
		}
		mustBe(t, "Len", l.Len(), some*min(round+1, 3))
	}
	x, ok := l.At(0)
	mustBe(t, "At", x.H, 0)
	mustBe(t, "At", ok, true)
}

// TestManyAlike: three stay, however many come.
func TestManyAlike(t *testing.T) {
	l := New[int]()
	for i := range many {
		l.Push(i, "b", list("x=1 y=2"))
	}
	mustBe(t, "Len", l.Len(), 3)
	mustBe(t, "Place", l.Place(many-3), 0)
	for i := range many {
		l.Put(1, many+i, "b", list("y=2 x=1"))
	}
	mustBe(t, "Len", l.Len(), many+3)
	l.Push(-1, "b", list("x=1 y=2"))
	mustBe(t, "Len", l.Len(), many+3)
	mustBe(t, "Place of the first", l.Place(2*many-1), 0)
}

// TestManyMarkers: each Clear takes one, and each Push sees behind the last one alone.
func TestManyMarkers(t *testing.T) {
	l := New[int]()
	for i := range many {
		l.Mark()
		for range 5 {
			l.Push(i, "b", nil)
		}
	}
	mustBe(t, "Len", l.Len(), 4*many)
	mustBe(t, "From", l.From(func(int) bool { return false }), 4*many-3)
	for i := range many {
		l.Clear()
		if l.Len() != 4*(many-i-1) {
			t.Fatalf("Clear %d: Len: %d", i, l.Len())
		}
	}
}

// TestManyAttributes of one entry.
func TestManyAttributes(t *testing.T) {
	var a, b []api.Attr
	for i := range many {
		a = append(a, attr("a"+strconv.Itoa(i), "1"))
		b = append(b, attr("a"+strconv.Itoa(many-1-i), "1"))
	}
	l := New[int]()
	l.Push(1, "b", a)
	l.Push(2, "b", b)
	l.Push(3, "b", a)
	l.Push(4, "b", b)
	mustBe(t, "Len", l.Len(), 3)
	b[0].Value = "2"
	l.Push(5, "b", b)
	mustBe(t, "Len", l.Len(), 4)
	l.Push(6, "b", a[1:])
	mustBe(t, "Len", l.Len(), 5)
	x, _ := l.At(0)
	mustBe(t, "attributes", len(x.Attrs), many)
	mustBe(t, "the first one's value", x.Attrs[0].Value, "1")
}
