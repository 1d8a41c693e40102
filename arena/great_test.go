package arena

import (
	"strconv"
	"strings"
	"testing"

	"arbour/api"
	"arbour/tree"
)

const (
	deepSteps = 200000
	wideKids  = 200000
)

// chain hangs so many elements one below the other under a new arena's Document, each as it is made; their numbers are 1 and on.
func chain(t *testing.T, steps int) *Arena {
	t.Helper()
	a := New()
	for i := range steps {
		if n := makeEl(t, a, "b"); a.Append(i, n) != api.OK {
			t.Fatalf("Append at step %d", i)
		}
	}
	return a
}

func mustBeDeep(t *testing.T, a *Arena, n, count, depth int) {
	t.Helper()
	x, why := a.Pure(n)
	if why != api.OK || tree.Count(x) != count || tree.Depth(x) != depth {
		t.Errorf("Pure(%d): %d nodes, %d deep, %v, want %d, %d", n, tree.Count(x), tree.Depth(x), why, count, depth)
	}
}

func TestDeepFromTheTopOn(t *testing.T) {
	a := chain(t, deepSteps)
	mustBeDeep(t, a, 0, deepSteps+1, deepSteps+1)
	mustTell(t, "Write", a.Write(deepSteps, "a"), api.OK)
	mustTell(t, "WriteBefore", a.WriteBefore(deepSteps, "b"), api.OK)
	mustTell(t, "More", a.More(deepSteps, []api.Attr{{Name: "a"}}), api.OK)
	mustHaveKids(t, a, deepSteps-1, deepSteps+2, deepSteps)
	mustBeDeep(t, a, 0, deepSteps+3, deepSteps+2)
	mustBeDeep(t, a, deepSteps/2, deepSteps-deepSteps/2+3, deepSteps-deepSteps/2+2)
	x, _ := a.Pure(0)
	b, why := Of(x)
	mustTell(t, "Of", why, api.OK)
	if y, _ := b.Pure(0); !tree.Same(x, y) || b.Len() != a.Len() {
		t.Error("Of: another tree")
	}
}

func TestDeepFromTheBottomOn(t *testing.T) {
	a := New()
	n := makeEl(t, a, "b")
	for range deepSteps {
		up := makeEl(t, a, "b")
		mustTell(t, "Append", a.Append(up, n), api.OK)
		n = up
	}
	mustTell(t, "Append", a.Append(0, n), api.OK)
	mustBeDeep(t, a, 0, deepSteps+2, deepSteps+2)
}

// TestDeepByBefore puts each step ahead of one that stands where it is to stand, and takes that one away.
func TestDeepByBefore(t *testing.T) {
	a := New()
	mark, _ := a.Make(api.CommentNode, 0, "", nil, "")
	parent := 0
	for range deepSteps {
		n := makeEl(t, a, "b")
		if a.Append(parent, mark) != api.OK || a.Before(mark, n) != api.OK || a.Detach(mark) != api.OK {
			t.Fatalf("at %d", n)
		}
		parent = n
	}
	mustBeDeep(t, a, 0, deepSteps+1, deepSteps+1)
}

func TestDeepTemplates(t *testing.T) {
	a := New()
	parent := 0
	for range deepSteps / 2 {
		n := makeEl(t, a, "template")
		mustTell(t, "Append", a.Append(parent, n), api.OK)
		parent, _ = a.Content(n)
	}
	mustTell(t, "Write", a.Write(parent, "a"), api.OK)
	mustBeDeep(t, a, 0, deepSteps+2, deepSteps+2)
	x, _ := a.Pure(0)
	b, why := Of(x)
	mustTell(t, "Of", why, api.OK)
	if n, ok := b.Content(deepSteps - 1); n != deepSteps || !ok {
		t.Errorf("Content: %d, %v", n, ok)
	}
	if y, _ := b.Pure(0); !tree.Same(x, y) {
		t.Error("Of: another tree")
	}
}

func TestLoopsFarDown(t *testing.T) {
	a := chain(t, deepSteps)
	mustTell(t, "Move", a.Move(1, deepSteps), api.ErrLoop)
	mustTell(t, "Move", a.Move(0, deepSteps), api.ErrLoop)
	mustTell(t, "Move", a.Move(deepSteps-1, deepSteps), api.ErrLoop)
	mustTell(t, "Detach", a.Detach(1), api.OK)
	for _, at := range []int{1, 2, deepSteps / 2, deepSteps} {
		mustTell(t, "Append", a.Append(at, 1), api.ErrLoop)
	}
	for _, at := range []int{2, deepSteps / 2, deepSteps} {
		mustTell(t, "Before", a.Before(at, 1), api.ErrLoop)
	}
	mustBeDeep(t, a, 1, deepSteps, deepSteps)
	// Beside what is deep, and from far down to above it, all is open.
	p := makeEl(t, a, "p")
	mustTell(t, "Append", a.Append(0, p), api.OK)
	mustTell(t, "Before", a.Before(p, 1), api.OK)
	mustTell(t, "Move", a.Move(deepSteps/2, 1), api.OK)
	mustHaveKids(t, a, 1, 2, deepSteps/2+1)
	mustTell(t, "Detach", a.Detach(1), api.OK)
	mustTell(t, "Append", a.Append(p, 1), api.OK)
	mustBeDeep(t, a, 0, deepSteps+2, deepSteps-deepSteps/2+3)
}

// TestGreatTreesAreHungAgainAndAgain: a small one far down, a great one under a small one, a wide one beside a deep one.
func TestGreatTreesAreHungAgainAndAgain(t *testing.T) {
	a := chain(t, deepSteps)
	small := makeEl(t, a, "template")
	great := makeEl(t, a, "p")
	wide := makeEl(t, a, "p")
	for range wideKids {
		a.Append(wide, makeEl(t, a, "b"))
	}
	for range 100000 {
		if a.Append(deepSteps, small) != api.OK || a.Detach(small) != api.OK {
			t.Fatal("a small one far down")
		}
		if a.Detach(1) != api.OK || a.Append(great, 1) != api.OK || a.Detach(1) != api.OK || a.Append(0, 1) != api.OK {
			t.Fatal("a great one under a small one")
		}
		if a.Append(2, wide) != api.OK || a.Detach(wide) != api.OK {
			t.Fatal("a wide one near the top")
		}
		if a.Move(small, deepSteps) != api.OK || a.Move(deepSteps, small) != api.OK {
			t.Fatal("Move of nothing")
		}
	}
	mustBeDeep(t, a, 0, deepSteps+1, deepSteps+1)
}

func TestWide(t *testing.T) {
	a := New()
	p, q := makeEl(t, a, "p"), makeEl(t, a, "q")
	a.Append(0, p)
	a.Append(0, q)
	for range wideKids {
		a.Append(p, makeEl(t, a, "b"))
	}
	first, last := 3, wideKids+2
	// The new one comes right behind the first each time, between the others.
	for range wideKids {
		mustTell(t, "Before", a.Before(first+1, makeEl(t, a, "i")), api.OK)
	}
	kids := a.Kids(p)
	if len(kids) != 2*wideKids || kids[0] != first || kids[1] != last+1 || kids[wideKids] != last+wideKids || kids[wideKids+1] != first+1 || kids[2*wideKids-1] != last {
		t.Errorf("%d kids", len(kids))
	}
	mustTell(t, "Move", a.Move(p, q), api.OK)
	mustHaveKids(t, a, p)
	if got := a.Kids(q); len(got) != 2*wideKids || got[2*wideKids-1] != last {
		t.Errorf("%d kids behind Move", len(got))
	}
	x, _ := a.Pure(0)
	if tree.Count(x) != 2*wideKids+3 {
		t.Errorf("Count: %d", tree.Count(x))
	}
	b, why := Of(x)
	mustTell(t, "Of", why, api.OK)
	if y, _ := b.Pure(0); !tree.Same(x, y) {
		t.Error("Of: another tree")
	}
	for i, n := range kids {
		if i%2 == 0 {
			mustTell(t, "Detach", a.Detach(n), api.OK)
		}
	}
	if got := a.Kids(q); len(got) != wideKids || got[0] != kids[1] || got[wideKids-1] != last {
		t.Errorf("%d kids behind Detach", len(got))
	}
}

func TestTextsAmongMany(t *testing.T) {
	a := New()
	p := makeEl(t, a, "p")
	for range wideKids {
		n := makeEl(t, a, "b")
		a.Append(p, n)
		a.WriteBefore(n, "a")
		a.WriteBefore(n, "b")
	}
	if a.Len() != 2*wideKids+2 || len(a.Kids(p)) != 2*wideKids {
		t.Errorf("Len %d, %d kids", a.Len(), len(a.Kids(p)))
	}
	x, _ := a.Pure(p)
	if got := tree.Text(x); got != strings.Repeat("ab", wideKids) {
		t.Errorf("Text: %d bytes", len(got))
	}
}

// TestLongTexts: to write on must not take longer for what stands there.
func TestLongTexts(t *testing.T) {
	const writes = 4000000
	a := New()
	p := makeEl(t, a, "p")
	b := makeEl(t, a, "b")
	a.Append(p, b)
	for range writes {
		a.Write(p, "a")
		a.WriteBefore(b, "b")
	}
	if a.Len() != 5 {
		t.Errorf("Len: %d", a.Len())
	}
	x, _ := a.Pure(p)
	if got := tree.Text(x); got != strings.Repeat("b", writes)+strings.Repeat("a", writes) {
		t.Errorf("Text: %d bytes", len(got))
	}
}

func TestManyAttributes(t *testing.T) {
	const many = 200000
	all := make([]api.Attr, many)
	for i := range all {
		all[i] = api.Attr{Name: strconv.Itoa(i), Value: "1"}
	}
	a := New()
	p := makeEl(t, a, "p")
	for i := range all {
		a.More(p, all[i:i+1])
	}
	mustTell(t, "More", a.More(p, all), api.OK)
	q, _ := a.Make(api.Element, api.HTML, "p", append(all, all...), "")
	mustTell(t, "More", a.More(q, all), api.OK)
	x, _ := a.Pure(p)
	y, _ := a.Pure(q)
	if len(x.Attrs) != many || !tree.Same(x, y) || x.Attrs[many-1] != all[many-1] {
		t.Errorf("%d attributes, %d", len(x.Attrs), len(y.Attrs))
	}
}
