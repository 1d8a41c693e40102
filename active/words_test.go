package active

import (
	"slices"
	"strconv"
	"testing"

	"arbour/api"
	"arbour/attrs"
)

// words is a list of the promise's words, taken one after the other, over a plain slice.
type words struct{ items []Entry[int] }

// behind tells where the entries behind the last marker begin.
func (w *words) behind() int {
	for i, x := range slices.Backward(w.items) {
		if x.Marker {
			return i + 1
		}
	}
	return 0
}

func (w *words) push(x Entry[int]) {
	var alike []int
	for i := w.behind(); i < len(w.items); i++ {
		if y := w.items[i]; y.Name == x.Name && attrs.Alike(y.Attrs, x.Attrs) {
			alike = append(alike, i)
		}
	}
	if len(alike) >= 3 {
		w.items = slices.Concat(w.items[:alike[0]], w.items[alike[0]+1:])
	}
	w.items = append(w.items, x)
}

func (w *words) clear() {
	for len(w.items) > 0 {
		last := w.items[len(w.items)-1]
		w.items = w.items[:len(w.items)-1]
		if last.Marker {
			return
		}
	}
}

func (w *words) find(name string) (Entry[int], bool) {
	var last Entry[int]
	ok := false
	for _, x := range w.items[w.behind():] {
		if x.Name == name {
			last, ok = x, true
		}
	}
	return last, ok
}

func (w *words) place(h int) int {
	last := -1
	for i, x := range w.items {
		if !x.Marker && x.H == h {
			last = i
		}
	}
	return last
}

func (w *words) remove(h int) bool {
	i := w.place(h)
	if i < 0 {
		return false
	}
	w.items = slices.Concat(w.items[:i], w.items[i+1:])
	return true
}

func (w *words) replace(h, with int) bool {
	i := w.place(h)
	if i < 0 {
		return false
	}
	w.items[i].H = with
	return true
}

func (w *words) put(i int, x Entry[int]) {
	if i < 0 {
		i = 0
	}
	if i > len(w.items) {
		i = len(w.items)
	}
	w.items = slices.Concat(w.items[:i], []Entry[int]{x}, w.items[i:])
}

func (w *words) from(is func(int) bool) int {
	begins := func(i int) bool { return w.items[i].Marker || is(w.items[i].H) }
	if len(w.items) == 0 || begins(len(w.items)-1) {
		return len(w.items)
	}
	i := len(w.items) - 1
	for i > 0 && !begins(i-1) {
		i--
	}
	return i
}

// dice gives numbers that look like any, the same ones each time.
type dice uint64

func (d *dice) roll(n int) int {
	*d = *d*6364136223846793005 + 1442695040888963407
	return int(uint64(*d) >> 33 % uint64(n))
}

func pick[T any](d *dice, of ...T) T { return of[d.roll(len(of))] }

// entry draws one of few, so that many are alike.
func (d *dice) entry() Entry[int] {
	x := Entry[int]{H: d.roll(6), Name: pick(d, "b", "b", "i", "")}
	for range pick(d, 0, 0, 1, 2, 3) {
		x.Attrs = append(x.Attrs, api.Attr{Name: pick(d, "x", "y"), Value: pick(d, "1", "1", "2")})
	}
	return x
}

// step does one and the same thing to both, and asks whether both tell the same of it.
func step(p pair, w *words, d *dice) {
	switch d.roll(12) {
	case 0, 1, 2, 3:
		x := d.entry()
		p.push(text(x))
		w.push(x)
	case 4:
		if d.roll(3) == 0 {
			p.mark()
			w.items = append(w.items, Entry[int]{Marker: true})
		}
	case 5:
		if d.roll(4) == 0 {
			p.clear()
			w.clear()
		}
	case 6:
		name := pick(d, "b", "i", "", "u")
		x, ok := p.find(name)
		y, too := w.find(name)
		mustBe(p.t, "Find", ok, too)
		mustBe(p.t, "Find", text(x), text(y))
	case 7:
		h := d.roll(8) - 1
		mustBe(p.t, "Remove", p.remove(h), w.remove(h))
	case 8:
		h, with := d.roll(8)-1, d.roll(6)
		mustBe(p.t, "Replace", p.replace(h, with), w.replace(h, with))
	case 9, 10:
		i, x := d.roll(len(w.items)+4)-2, d.entry()
		p.put(i, text(x))
		w.put(i, x)
	default:
		some := d.roll(64)
		is := func(h int) bool { return some>>h&1 == 1 }
		mustBe(p.t, "From", p.from(is), w.from(is))
	}
	for h := -1; h < 7; h++ {
		mustBe(p.t, "Place of "+strconv.Itoa(h), p.place(h), w.place(h))
	}
}

func TestDrawnRuns(t *testing.T) {
	longest := 0
	for seed := range 300 {
		d := dice(seed)
		p, w := newPair(t), &words{}
		for range 150 {
			step(p, w, &d)
			if got, want := texts(p.all()), texts(w.items); got != want {
				t.Fatalf("run %d: %s, want %s", seed, got, want)
			}
			if t.Failed() {
				t.Fatalf("run %d: %s", seed, texts(w.items))
			}
		}
		longest = max(longest, len(w.items))
	}
	if longest < 20 {
		t.Errorf("the longest list had %d", longest)
	}
}

// TestAlikeAsAttrsTellsIt: of each two short lists of attributes, four entries stay just where they are not Alike.
func TestAlikeAsAttrsTellsIt(t *testing.T) {
	lists := [][]api.Attr{nil}
	for n := 0; n < len(lists) && len(lists[n]) < 3; n++ {
		for _, a := range list("x=1 x=2 y=1 =") {
			lists = append(lists, append(slices.Clone(lists[n]), a))
		}
	}
	mustBe(t, "lists", len(lists), 1+4+16+64)
	for _, a := range lists {
		for _, b := range lists {
			l := New[int]()
			for h := range 3 {
				l.Push(h, "b", a)
			}
			l.Push(3, "b", b)
			want := 4
			if attrs.Alike(a, b) {
				want = 3
			}
			if l.Len() != want {
				t.Errorf("%v and %v: %d, want %d", a, b, l.Len(), want)
			}
		}
	}
}
