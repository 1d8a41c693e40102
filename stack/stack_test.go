package stack

import (
	"math"
	"slices"
	"testing"
)

// pile makes a pile of these, the first at the bottom.
func pile[T any](items ...T) *Stack[T] {
	s := New[T]()
	for _, x := range items {
		s.Push(x)
	}
	return s
}

func mustHold(t *testing.T, s *Stack[string], want ...string) {
	t.Helper()
	if got := s.All(); !slices.Equal(got, want) {
		t.Errorf("All: %q, want %q", got, want)
	}
	if s.Len() != len(want) {
		t.Errorf("Len: %d, want %d", s.Len(), len(want))
	}
	for i, w := range want {
		if x, ok := s.At(i); x != w || !ok {
			t.Errorf("At(%d): %q, %v, want %q", i, x, ok, w)
		}
	}
	top, ok := s.Top()
	if ok != (len(want) > 0) || ok && top != want[len(want)-1] || !ok && top != "" {
		t.Errorf("Top: %q, %v of %q", top, ok, want)
	}
}

// outside are the places that a pile of n has none at.
func outside(n int) []int {
	return []int{n, n + 1, n + 1000, math.MaxInt, -1, -2, -n, -n - 1, math.MinInt}
}

func TestRunOfTheChapter(t *testing.T) {
	s := New[string]()
	s.Push("a")
	s.Push("b")
	if !s.Put(1, "c") {
		t.Error("Put(1) of two: false")
	}
	mustHold(t, s, "a", "c", "b")
}

func TestEmptyPile(t *testing.T) {
	s := New[string]()
	mustHold(t, s)
	if x, ok := s.Pop(); x != "" || ok {
		t.Errorf("Pop: %q, %v", x, ok)
	}
	for _, i := range append(outside(0), 0) {
		if x, ok := s.At(i); x != "" || ok {
			t.Errorf("At(%d): %q, %v", i, x, ok)
		}
		if x, ok := s.Cut(i); x != "" || ok {
			t.Errorf("Cut(%d): %q, %v", i, x, ok)
		}
		if s.Set(i, "x") {
			t.Errorf("Set(%d): true", i)
		}
		if i != 0 && s.Put(i, "x") {
			t.Errorf("Put(%d): true", i)
		}
	}
	mustHold(t, s)
	if !s.Put(0, "x") {
		t.Error("Put(0): false")
	}
	mustHold(t, s, "x")
}

func TestPushAndPopAreLastInFirstOut(t *testing.T) {
	s := New[string]()
	s.Push("a")
	mustHold(t, s, "a")
	s.Push("b")
	mustHold(t, s, "a", "b")
	if x, ok := s.Pop(); x != "b" || !ok {
		t.Errorf("Pop: %q, %v", x, ok)
	}
	s.Push("c")
	mustHold(t, s, "a", "c")
	for _, want := range []string{"c", "a"} {
		if x, ok := s.Pop(); x != want || !ok {
			t.Errorf("Pop: %q, %v, want %q", x, ok, want)
		}
	}
	mustHold(t, s)
	if x, ok := s.Pop(); x != "" || ok {
		t.Errorf("Pop of none left: %q, %v", x, ok)
	}
	s.Push("d")
	mustHold(t, s, "d")
}

func TestTopTakesNothing(t *testing.T) {
	s := pile("a", "b")
	for range 3 {
		if x, ok := s.Top(); x != "b" || !ok {
			t.Errorf("Top: %q, %v", x, ok)
		}
	}
	mustHold(t, s, "a", "b")
}

func TestSetAtEachPlace(t *testing.T) {
	tests := [][]string{{"x", "b", "c"}, {"a", "x", "c"}, {"a", "b", "x"}}
	for i, want := range tests {
		s := pile("a", "b", "c")
		if !s.Set(i, "x") {
			t.Errorf("Set(%d): false", i)
		}
		mustHold(t, s, want...)
	}
}

func TestPutAtEachPlace(t *testing.T) {
	tests := [][]string{{"x", "a", "b"}, {"a", "x", "b"}, {"a", "b", "x"}}
	for i, want := range tests {
		s := pile("a", "b")
		if !s.Put(i, "x") {
			t.Errorf("Put(%d): false", i)
		}
		mustHold(t, s, want...)
	}
}

func TestPutAtLenIsPush(t *testing.T) {
	put, push := New[string](), New[string]()
	for _, x := range []string{"a", "b", "c", "d", "e"} {
		if !put.Put(put.Len(), x) {
			t.Errorf("Put(Len, %q): false", x)
		}
		push.Push(x)
		mustHold(t, put, push.All()...)
	}
}

func TestCutAtEachPlace(t *testing.T) {
	tests := []struct {
		cut  string
		left []string
	}{
		{"a", []string{"b", "c"}},
		{"b", []string{"a", "c"}},
		{"c", []string{"a", "b"}},
	}
	for i, c := range tests {
		s := pile("a", "b", "c")
		if x, ok := s.Cut(i); x != c.cut || !ok {
			t.Errorf("Cut(%d): %q, %v, want %q", i, x, ok, c.cut)
		}
		mustHold(t, s, c.left...)
	}
}

func TestPlacesWithNone(t *testing.T) {
	s := pile("a", "b", "c")
	s.Push("gone") // leaves room behind the length, which must not be read
	s.Pop()
	for _, i := range outside(3) {
		if x, ok := s.At(i); x != "" || ok {
			t.Errorf("At(%d): %q, %v", i, x, ok)
		}
		if x, ok := s.Cut(i); x != "" || ok {
			t.Errorf("Cut(%d): %q, %v", i, x, ok)
		}
		if s.Set(i, "x") {
			t.Errorf("Set(%d): true", i)
		}
		if i != 3 && s.Put(i, "x") {
			t.Errorf("Put(%d): true", i)
		}
		mustHold(t, s, "a", "b", "c")
	}
}

func TestAllIsByItself(t *testing.T) {
	s := pile("a", "b", "c")
	first, second := s.All(), s.All()
	first[0] = "x"
	_ = append(first[:1], "y", "z", "zz")
	mustHold(t, s, "a", "b", "c")
	if !slices.Equal(second, []string{"a", "b", "c"}) {
		t.Errorf("another answer was changed: %q", second)
	}
	s.Set(1, "s")
	s.Cut(0)
	s.Push("p")
	if !slices.Equal(second, []string{"a", "b", "c"}) {
		t.Errorf("what the pile was given changed an answer: %q", second)
	}
}

func TestSpareRoomOfAllIsByItself(t *testing.T) {
	s := pile("a", "b", "c")
	s.Pop()
	l := s.All()
	l = l[:cap(l)]
	for i := range l {
		l[i] = "x"
	}
	mustHold(t, s, "a", "b")
	s.Push("d")
	mustHold(t, s, "a", "b", "d")
	for _, x := range l {
		if x != "x" {
			t.Errorf("Push wrote into an answer: %q", l)
		}
	}
}

func TestPilesAreByThemselves(t *testing.T) {
	a, b := pile("a"), pile("b")
	a.Push("c")
	b.Cut(0)
	mustHold(t, a, "a", "c")
	mustHold(t, b)
}

func TestHeldAsItIs(t *testing.T) {
	list := []int{1, 2}
	s := pile(list)
	list[0] = 9
	if got, ok := s.Top(); !ok || got[0] != 9 {
		t.Errorf("a list is not held as it is: %v, %v", got, ok)
	}
	n := new(int)
	p := pile(n, nil)
	if got, ok := p.Top(); got != nil || !ok {
		t.Errorf("nil is one, too: %v, %v", got, ok)
	}
	if got, ok := p.At(0); got != n || !ok {
		t.Errorf("a pointer is not held as it is: %v, %v", got, ok)
	}
}

func TestOtherTypes(t *testing.T) {
	e := pile(struct{}{}, struct{}{})
	e.Put(1, struct{}{})
	if _, ok := e.Cut(2); !ok || e.Len() != 2 || len(e.All()) != 2 {
		t.Errorf("of struct{}: %v", e.All())
	}
	a := pile[any](1, "x", nil)
	if x, ok := a.Pop(); x != nil || !ok {
		t.Errorf("of any: Pop: %v, %v", x, ok)
	}
	if x, ok := a.Cut(0); x != any(1) || !ok || a.Len() != 1 {
		t.Errorf("of any: Cut: %v, %v", x, ok)
	}
}

// What is gone is not kept: the room behind the length holds nothing of it.
func TestWhatIsGoneIsNotKept(t *testing.T) {
	s := pile(new(int), new(int), new(int), new(int))
	s.Pop()
	s.Cut(0)
	s.Cut(1)
	for i, x := range s.items[s.Len():cap(s.items)] {
		if x != nil {
			t.Errorf("the %d-th behind the length is kept", i)
		}
	}
}

func TestManyAtOnce(t *testing.T) {
	const n = 100000
	s := New[int]()
	for i := range n {
		s.Push(i)
	}
	for i := n - 1; i >= 0; i-- {
		if x, ok := s.Pop(); x != i || !ok {
			t.Fatalf("Pop: %d, %v, want %d", x, ok, i)
		}
	}
	if s.Len() != 0 {
		t.Errorf("Len: %d", s.Len())
	}
}
