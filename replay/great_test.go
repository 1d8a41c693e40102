package replay

import (
	"strings"
	"testing"

	"arbour/api"
	"arbour/op"
	"arbour/tree"
)

const great = 200000

// mustBeGreat does the operations, and asks how many nodes there are, and how deep they lie.
func mustBeGreat(t *testing.T, said string, l []api.Op, made, count, depth int) {
	t.Helper()
	a, n, why := Do(l)
	if n != len(l) || why != api.OK {
		t.Fatalf("%s: %d of %d, %v", said, n, len(l), why)
	}
	x, _ := a.Pure(0)
	if a.Len() != made || tree.Count(x) != count || tree.Depth(x) != depth {
		t.Errorf("%s: Len %d, %d nodes, %d deep, want %d, %d, %d", said, a.Len(), tree.Count(x), tree.Depth(x), made, count, depth)
	}
}

func TestDeepFromTheTopOn(t *testing.T) {
	var l []api.Op
	for i := range great {
		l = append(l, el(i+1, "b"), under(i, i+1))
	}
	mustBeGreat(t, "elements", l, great+1, great+1, great+1)
	l = append(l, write(great, "a"), pour(great, 0, "b"), more(great, attr("a", "1")))
	mustBeGreat(t, "elements and Texts", l, great+3, great+3, great+2)
	mustEnd(t, l, move(1, great), api.ErrLoop)
	mustEnd(t, l, under(great, 1), api.ErrTaken)
	mustEnd(t, append(l, detach(1)), under(great, 1), api.ErrLoop)
	mustEnd(t, append(l, detach(1)), before(great, 1), api.ErrLoop)
	mustEnd(t, append(l, detach(1)), foster(great, 0, 1), api.ErrLoop)
}

// mustEnd asks for the refusal of an operation behind many.
func mustEnd(t *testing.T, l []api.Op, o api.Op, want api.Errno) {
	t.Helper()
	all := append(l[:len(l):len(l)], o)
	if a, n, why := Do(all); a != nil || n != len(l) || why != want || Check(all) != want {
		t.Errorf("%s: %d of %d, %v, want %v", op.Text(o), n, len(l), why, want)
	}
}

// TestDeepFromTheBottomOn: handles fall, and each Foster finds a Ref that hangs nowhere.
func TestDeepFromTheBottomOn(t *testing.T) {
	l := []api.Op{el(great, "b")}
	for h := great - 1; h > 0; h-- {
		l = append(l, el(h, "b"), foster(h, h, h+1))
	}
	mustBeGreat(t, "elements", append(l, under(0, 1)), great+1, great+1, great+1)
}

func TestDeepTemplates(t *testing.T) {
	var l []api.Op
	for i := range great {
		l = append(l, el(2*i+1, "template"), under(2*i, 2*i+1), inner(2*i+1, 2*i+2))
	}
	mustBeGreat(t, "templates", append(l, write(2*great, "t")), 2*great+2, 2*great+2, 2*great+2)
}

// TestWide: many kids, put in ahead of one and at the end, with Texts between, and moved.
func TestWide(t *testing.T) {
	l := []api.Op{el(1, "p"), under(0, 1), el(2, "q"), under(1, 2), el(3, "r")}
	for i := range great {
		h := 10 + i*1000
		l = append(l, el(h, "b"), foster(2, 0, h), pour(2, 0, "x"), comment(h+1, "c"), foster(3, 1, h+1))
	}
	mustBeGreat(t, "kids", l, 3*great+4, 3*great+3, 3)
	mustBeGreat(t, "kids that are moved", append(l, move(1, 3), under(0, 3)), 3*great+4, 3*great+4, 3)
}

func TestLongTexts(t *testing.T) {
	l := []api.Op{el(1, "p"), under(0, 1), el(2, "q"), under(1, 2)}
	for range 2 * great {
		l = append(l, pour(2, 0, "a"), write(1, "b"))
	}
	mustBeGreat(t, "Texts", l, 5, 5, 3)
	a, _, _ := Do(l)
	x, _ := a.Pure(0)
	if tree.Text(x) != strings.Repeat("a", 2*great)+strings.Repeat("b", 2*great) {
		t.Error("another Text")
	}
}

// TestManyRefused: what is refused leaves nothing behind, however often.
func TestManyRefused(t *testing.T) {
	p := New()
	for i := range great {
		for _, c := range []struct {
			o    api.Op
			want api.Errno
		}{
			{api.Op{Kind: api.Make, Node: i + 1, Type: api.Element, NS: api.HTML}, api.ErrForm},
			{inner(0, i+1), api.ErrKind}, {inner(i+1, i+2), api.ErrNone}, {under(0, i+1), api.ErrNone}, {el(0, "p"), api.ErrTaken},
		} {
			if got := p.Do(c.o); got != c.want {
				t.Fatalf("%s: %v, want %v", op.Text(c.o), got, c.want)
			}
		}
	}
	if p.Arena().Len() != 1 || len(p.numbers) != 1 {
		t.Errorf("Len %d, %d handles", p.Arena().Len(), len(p.numbers))
	}
}

func TestManyHandlesOfOneContent(t *testing.T) {
	l := []api.Op{el(1, "template"), under(0, 1)}
	for i := range great {
		l = append(l, inner(1, i+2), write(i+2, "x"))
	}
	mustBeGreat(t, "one Content", l, 4, 4, 4)
}

func TestManyThroughBytes(t *testing.T) {
	d := dice(9)
	p := New()
	var l []api.Op
	for range great {
		if o := d.draw(); p.Do(o) == api.OK {
			l = append(l, o)
		}
	}
	b, why := op.Encode(l)
	mustTell(t, "Encode", why, api.OK)
	back, why := op.Decode(b)
	mustTell(t, "Decode", why, api.OK)
	a, n, why := Do(back)
	if n != len(l) || why != api.OK || tell(a) != tell(p.Arena()) {
		t.Errorf("%d of %d, %v", n, len(l), why)
	}
}
