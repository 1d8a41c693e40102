package replay

import (
	"slices"
	"testing"

	"arbour/api"
	"arbour/op"
)

// roomy are operations with spare room behind their lists.
func roomy() []api.Op {
	room := func(l ...api.Attr) []api.Attr { return append(l, attr("spare", "s"), attr("spare", "s"))[:len(l)] }
	l := []api.Op{
		el(1, "p", room(attr("a", "1"), attr("b", "2"), attr("a", "3"))...),
		under(0, 1),
		more(1, room(attr("c", "4"), attr("c", "5"))...),
		more(1, attr("d", "6")),
		write(1, "t"),
	}
	return append(l, api.Op{Kind: api.Quirks, Name: "spare"})[:len(l)]
}

const roomyShown = `p a=1 b=2 c=4 d=6("t")`

// turn turns all of l, spare room too.
func turn(l []api.Op) {
	for _, o := range l[:cap(l)] {
		for i := range o.Attrs[:cap(o.Attrs)] {
			o.Attrs[:cap(o.Attrs)][i] = attr("turned", "turned")
		}
	}
	for i := range l[:cap(l)] {
		l[:cap(l)][i] = detach(99)
	}
}

// deepCopy tells l with its spare room, and the spare room of its attributes, in memory of its own.
func deepCopy(l []api.Op) []api.Op {
	out := slices.Clone(l[:cap(l)])
	for i := range out {
		out[i].Attrs = slices.Clone(out[i].Attrs[:cap(out[i].Attrs)])
	}
	return out
}

func mustStay(t *testing.T, l, was []api.Op) {
	t.Helper()
	if !slices.EqualFunc(deepCopy(l), was, op.Same) {
		t.Errorf("what was handed in has changed: %s", textOf(l))
	}
}

func TestWhatIsHandedInStays(t *testing.T) {
	l := roomy()
	was := deepCopy(l)
	for n := range len(l) + 1 {
		Do(l[:n])
		Check(l[:n])
		p := New()
		for _, o := range l[:n] {
			p.Do(o)
			p.Do(o)
		}
		mustStay(t, l, was)
	}
	// The room behind the list holds what would be refused.
	if a, n, why := Do(l); n != len(l) || why != api.OK || shown(a) != roomyShown {
		t.Errorf("%d, %v", n, why)
	}
}

func TestWhatIsTurnedIsNotSeen(t *testing.T) {
	l := roomy()
	a, _, _ := Do(l)
	turn(l)
	if shown(a) != roomyShown {
		t.Errorf("Do: %s", shown(a))
	}
	l = roomy()
	p := New()
	for _, o := range l {
		mustTell(t, op.Text(o), p.Do(o), api.OK)
		turn([]api.Op{o})
	}
	turn(l)
	if shown(p.Arena()) != roomyShown {
		t.Errorf("a Player: %s", shown(p.Arena()))
	}
	// Nor does what is done to the arena reach the operations.
	l = roomy()
	was := deepCopy(l)
	a, _, _ = Do(l)
	a.More(1, []api.Attr{attr("e", "7"), attr("f", "8")})
	a.Write(1, "more")
	mustStay(t, l, was)
}

// TestArenasAreByThemselves: what Do told is not touched by a later Do, nor by another arena of the same operations.
func TestArenasAreByThemselves(t *testing.T) {
	a, _, _ := Do(scene())
	b, _, _ := Do(scene())
	was := tell(a)
	b.Detach(1)
	b.Write(1, "w")
	b.Quirks(true)
	Do(append(scene(), quirks(), detach(hP), el(1, "q"), under(0, 1)))
	Do(append(scene(), api.Op{}))
	Check(scene()[:4])
	if a == b || tell(a) != was {
		t.Errorf("the first arena:\n%s\nwas\n%s", tell(a), was)
	}
	if c, _, _ := Do(scene()); tell(c) != was {
		t.Errorf("Do hangs on what was done before:\n%s", tell(c))
	}
}

func TestPlayersAreApart(t *testing.T) {
	p, q := New(), New()
	for _, o := range scene() {
		p.Do(o)
	}
	p.Do(quirks())
	if tell(q.Arena()) != tell(New().Arena()) {
		t.Errorf("one Player is seen in another: %s", tell(q.Arena()))
	}
	for _, h := range sceneHandles()[1:] {
		if knows(q, h) {
			t.Errorf("handle %d is another Player's", h)
		}
	}
	// The same handles, given in another order, mean other nodes.
	for _, o := range []api.Op{el(hG, "x"), el(hP, "y"), under(0, hP), under(hP, hG)} {
		mustTell(t, op.Text(o), q.Do(o), api.OK)
	}
	if shown(q.Arena()) != "y(x())" || shown(p.Arena()) != sceneShown {
		t.Errorf("%s, %s", shown(q.Arena()), shown(p.Arena()))
	}
}
