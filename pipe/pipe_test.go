package pipe

import (
	"math"
	"slices"
	"testing"

	"arbour/api"
)

// made makes a pipe of that room with these in it.
func made[T any](t *testing.T, room int, items ...T) *Pipe[T] {
	t.Helper()
	p, why := New[T](room)
	if p == nil || why != api.OK {
		t.Fatalf("New(%d): %v, %v", room, p, why)
	}
	if n := p.Fill(items); n != len(items) {
		t.Fatalf("Fill of %d into %d: %d", len(items), room, n)
	}
	return p
}

// mustHold takes all of p: what is in it can't be seen otherwise.
func mustHold(t *testing.T, p *Pipe[string], room int, want ...string) {
	t.Helper()
	mustCount(t, p, len(want), room-len(want))
	if got := p.Drain(); !slices.Equal(got, want) {
		t.Errorf("Drain: %q, want %q", got, want)
	}
	mustCount(t, p, 0, room)
}

func mustCount[T any](t *testing.T, p *Pipe[T], n, room int) {
	t.Helper()
	if p.Len() != n || p.Room() != room {
		t.Errorf("Len %d, Room %d, want %d, %d", p.Len(), p.Room(), n, room)
	}
}

func mustTake(t *testing.T, p *Pipe[string], want string) {
	t.Helper()
	if x, ok := p.Take(); x != want || !ok {
		t.Errorf("Take: %q, %v, want %q", x, ok, want)
	}
}

func mustTakeNone(t *testing.T, p *Pipe[string]) {
	t.Helper()
	if x, ok := p.Take(); x != "" || ok {
		t.Errorf("Take of none: %q, %v", x, ok)
	}
}

func TestRunOfTheChapter(t *testing.T) {
	p := made[string](t, 2)
	if n := p.Fill([]string{"a", "b", "c"}); n != 2 {
		t.Errorf("Fill of three into two: %d", n)
	}
	mustHold(t, p, 2, "a", "b")
}

func TestExamplesOfTheChapter(t *testing.T) {
	p := made[string](t, 3)
	mustTakeNone(t, p)
	if !p.Put("x") {
		t.Error("Put: false")
	}
	mustTake(t, p, "x")
}

func TestNewWithoutRoomOrWithTooMuch(t *testing.T) {
	for _, room := range []int{0, -1, -2, -4096, math.MinInt, 4097, 4098, 65536, 1 << 32, 1<<32 + 1, math.MaxInt} {
		if p, why := New[string](room); p != nil || why != api.ErrArg {
			t.Errorf("New(%d): %v, %v", room, p, why)
		}
	}
}

func TestAllTheRoomThereIs(t *testing.T) {
	for _, room := range []int{1, 2, 3, 4095, 4096} {
		p := made[int](t, room)
		for i := range room {
			mustCount(t, p, i, room-i)
			if !p.Put(i) {
				t.Fatalf("room %d: Put of the %d-th: false", room, i)
			}
		}
		if p.Put(-1) {
			t.Errorf("room %d: Put into a full one: true", room)
		}
		mustCount(t, p, room, 0)
		for i := range room {
			if x, ok := p.Take(); x != i || !ok {
				t.Fatalf("room %d: Take: %d, %v, want %d", room, x, ok, i)
			}
			mustCount(t, p, room-i-1, i+1)
		}
		if x, ok := p.Take(); x != 0 || ok {
			t.Errorf("room %d: Take of none left: %d, %v", room, x, ok)
		}
	}
}

func TestPutIntoAFullOneChangesNothing(t *testing.T) {
	p := made(t, 2, "a", "b")
	for range 3 {
		if p.Put("c") {
			t.Error("Put into a full one: true")
		}
		mustCount(t, p, 2, 0)
	}
	mustTake(t, p, "a")
	if !p.Put("d") {
		t.Error("Put after a Take: false")
	}
	mustHold(t, p, 2, "b", "d")
}

func TestTakeOfAnEmptyOneChangesNothing(t *testing.T) {
	p := made(t, 2, "a")
	mustTake(t, p, "a")
	for range 3 {
		mustTakeNone(t, p)
		mustCount(t, p, 0, 2)
	}
	if n := p.Fill([]string{"b", "c"}); n != 2 {
		t.Errorf("Fill: %d", n)
	}
	mustHold(t, p, 2, "b", "c")
}

func TestFill(t *testing.T) {
	tests := []struct {
		room int
		in   []string
		fill []string
		n    int
		held []string
	}{
		{3, nil, nil, 0, nil},
		{3, nil, []string{}, 0, nil},
		{3, []string{"a"}, nil, 0, []string{"a"}},
		{3, nil, []string{"b", "c"}, 2, []string{"b", "c"}},
		{3, []string{"a"}, []string{"b", "c"}, 2, []string{"a", "b", "c"}},
		{3, []string{"a"}, []string{"b", "c", "d", "e"}, 2, []string{"a", "b", "c"}},
		{1, []string{"a"}, []string{"b", "c"}, 0, []string{"a"}},
		{1, []string{"a"}, nil, 0, []string{"a"}},
		{1, nil, []string{"", "b"}, 1, []string{""}},
	}
	for _, c := range tests {
		p := made(t, c.room, c.in...)
		if n := p.Fill(c.fill); n != c.n {
			t.Errorf("Fill(%q) into %q of room %d: %d, want %d", c.fill, c.in, c.room, n, c.n)
		}
		mustHold(t, p, c.room, c.held...)
	}
}

func TestFillWithMoreThanThereMayBe(t *testing.T) {
	p := made[int](t, 4096)
	l := make([]int, 100000)
	for i := range l {
		l[i] = i
	}
	if n := p.Fill(l); n != 4096 {
		t.Errorf("Fill: %d", n)
	}
	mustCount(t, p, 4096, 0)
	if got := p.Drain(); !slices.Equal(got, l[:4096]) {
		t.Errorf("Drain: %d of them, in another order or others", len(got))
	}
}

func TestFillReadsNoSpareRoomAndKeepsNoList(t *testing.T) {
	whole := []string{"a", "b", "spare"}
	p := made[string](t, 9)
	if n := p.Fill(whole[:2]); n != 2 {
		t.Errorf("Fill: %d", n)
	}
	if !slices.Equal(whole, []string{"a", "b", "spare"}) {
		t.Errorf("Fill changed its list: %q", whole)
	}
	whole[0], whole[1] = "x", "y"
	mustHold(t, p, 9, "a", "b")
}

func TestDrainOfNone(t *testing.T) {
	p := made[string](t, 2)
	mustHold(t, p, 2)
	p.Put("a")
	p.Take()
	mustHold(t, p, 2)
}

func TestDrainLeavesAPipeToGoOnWith(t *testing.T) {
	p := made(t, 3, "a", "b", "c")
	mustTake(t, p, "a")
	p.Put("d") // the line has gone round its room
	mustHold(t, p, 3, "b", "c", "d")
	mustTakeNone(t, p)
	p.Put("e")
	mustHold(t, p, 3, "e")
}

func TestDrainIsByItself(t *testing.T) {
	p := made(t, 4, "a", "b", "c")
	first := p.Drain()
	p.Fill([]string{"d", "e"})
	_ = append(first, "x", "y")
	first = first[:cap(first)]
	for i := range first {
		first[i] = "z"
	}
	second := p.Drain()
	if !slices.Equal(second, []string{"d", "e"}) {
		t.Errorf("an earlier answer changed the pipe: %q", second)
	}
	p.Fill([]string{"f", "g", "h"})
	if !slices.Equal(second, []string{"d", "e"}) || first[0] != "z" {
		t.Errorf("the pipe changed an answer: %q, %q", first, second)
	}
}

func TestPipesAreByThemselves(t *testing.T) {
	a, b := made(t, 2, "a"), made(t, 2, "b")
	a.Put("c")
	mustTake(t, b, "b")
	mustHold(t, a, 2, "a", "c")
	mustHold(t, b, 2)
}

func TestHeldAsItIs(t *testing.T) {
	list := []int{1, 2}
	p := made(t, 1, list)
	list[0] = 9
	if got, ok := p.Take(); !ok || got[0] != 9 {
		t.Errorf("a list is not held as it is: %v, %v", got, ok)
	}
	n := new(int)
	q := made(t, 2, nil, n)
	if got, ok := q.Take(); got != nil || !ok {
		t.Errorf("nil is one, too: %v, %v", got, ok)
	}
	if got, ok := q.Take(); got != n || !ok {
		t.Errorf("a pointer is not held as it is: %v, %v", got, ok)
	}
}

func TestOtherTypes(t *testing.T) {
	e := made(t, 2, struct{}{}, struct{}{})
	if e.Put(struct{}{}) || len(e.Drain()) != 2 {
		t.Error("of struct{}: not two")
	}
	a := made[any](t, 3, 1, nil, "x")
	if got := a.Drain(); !slices.Equal(got, []any{1, nil, "x"}) {
		t.Errorf("of any: %v", got)
	}
	b := made[bool](t, 1, false)
	if x, ok := b.Take(); x || !ok {
		t.Errorf("of bool: %v, %v", x, ok)
	}
}

// A channel takes no element of more than 64 kB; a pipe does.
func TestGreatElements(t *testing.T) {
	var x [100000]byte
	x[99999] = 7
	p := made(t, 4096, x)
	x[99999] = 8
	if got, ok := p.Take(); got[99999] != 7 || !ok {
		t.Errorf("of 100000 bytes: %v, %v", got[99999], ok)
	}
}

// Every row of six calls, each of them one of five, against a plain list: none waits, or the test would not end.
func TestAnyCalls(t *testing.T) {
	const room, calls, kinds = 2, 6, 5
	rows := 1
	for range calls {
		rows *= kinds
	}
	for row := range rows {
		p := made[int](t, room)
		var want []int
		for i, left := 0, row; i < calls; i, left = i+1, left/kinds {
			want = call(t, p, left%kinds, i+1, want, room)
			mustCount(t, p, len(want), room-len(want))
		}
		if got := p.Drain(); !slices.Equal(got, want) {
			t.Fatalf("row %d: Drain: %v, want %v", row, got, want)
		}
	}
}

// call makes one call of p, which holds the list held, and answers what it must hold then.
func call(t *testing.T, p *Pipe[int], kind, x int, held []int, room int) []int {
	t.Helper()
	switch kind {
	case 0:
		fits := len(held) < room
		if p.Put(x) != fits {
			t.Errorf("Put with %v held: %v", held, !fits)
		}
		if fits {
			held = append(held, x)
		}
	case 1:
		got, ok := p.Take()
		if len(held) == 0 {
			if got != 0 || ok {
				t.Errorf("Take of none: %d, %v", got, ok)
			}
			break
		}
		if got != held[0] || !ok {
			t.Errorf("Take with %v held: %d, %v", held, got, ok)
		}
		held = held[1:]
	case 2, 3:
		l := []int{x * 10, x*10 + 1, x*10 + 2}[:kind]
		n := min(len(l), room-len(held))
		if got := p.Fill(l); got != n {
			t.Errorf("Fill(%v) with %v held: %d, want %d", l, held, got, n)
		}
		held = append(held, l[:n]...)
	case 4:
		if got := p.Drain(); !slices.Equal(got, held) {
			t.Errorf("Drain: %v, want %v", got, held)
		}
		held = nil
	}
	return held
}
