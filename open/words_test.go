package open

import (
	"slices"
	"strconv"
	"strings"
	"testing"

	"arbour/api"
)

// words is a list of the promise's words, taken one after the other, over a plain slice.
type words struct{ items []Item[int] }

func of(x Item[int], list ...string) bool { return x.NS == api.HTML && slices.Contains(list, x.Name) }

func (w *words) pop() (Item[int], bool) {
	x, ok := w.at(len(w.items) - 1)
	if ok {
		w.items = w.items[:len(w.items)-1]
	}
	return x, ok
}

func (w *words) at(i int) (Item[int], bool) {
	if i < 0 || i >= len(w.items) {
		return Item[int]{}, false
	}
	return w.items[i], true
}

func (w *words) place(h int) int {
	last := -1
	for i, x := range w.items {
		if x.H == h {
			last = i
		}
	}
	return last
}

func (w *words) remove(h int) bool {
	i := w.place(h)
	if i < 0 {
		return false
	}
	w.items = slices.Concat(w.items[:i], w.items[i+1:])
	return true
}

func (w *words) replace(h int, x Item[int]) bool {
	i := w.place(h)
	if i < 0 {
		return false
	}
	w.items[i] = x
	return true
}

func (w *words) after(h int, x Item[int]) bool {
	i := w.place(h)
	if i < 0 {
		return false
	}
	w.items = slices.Concat(w.items[:i+1], []Item[int]{x}, w.items[i+1:])
	return true
}

func (w *words) has(name string) bool {
	return slices.ContainsFunc(w.items, func(x Item[int]) bool { return of(x, name) })
}

func (w *words) scope(kind int, list ...string) bool {
	if !slices.Contains(kinds, kind) {
		return false
	}
	for _, x := range slices.Backward(w.items) {
		if of(x, list...) {
			return true
		}
		if plainBounds(kind, x.NS, x.Name) {
			return false
		}
	}
	return false
}

func (w *words) until(list ...string) int {
	for i, x := range slices.Backward(w.items) {
		if of(x, list...) {
			n := len(w.items) - i
			w.items = w.items[:i]
			return n
		}
	}
	n := len(w.items)
	w.items = nil
	return n
}

func (w *words) popWhile(goes func(x Item[int]) bool) {
	for len(w.items) > 0 && goes(w.items[len(w.items)-1]) {
		w.items = w.items[:len(w.items)-1]
	}
}

func (w *words) imply(but string) {
	w.popWhile(func(x Item[int]) bool { return of(x, strings.Fields(implied)...) && !of(x, but) })
}

func (w *words) thorough() {
	w.popWhile(func(x Item[int]) bool { return of(x, strings.Fields(implied+" "+inTables)...) })
}

func (w *words) clear(list ...string) {
	w.popWhile(func(x Item[int]) bool { return !of(x, list...) && !of(x, "html", "template") })
}

// dice gives numbers that look like any, the same ones each time.
type dice uint64

func (d *dice) below(n int) int {
	*d = *d*6364136223846793005 + 1442695040888963407
	return int(uint64(*d) >> 33 % uint64(n))
}

func (d *dice) name() string {
	return strings.Fields("html body p p li dd b a table tbody tr td template ul ol button title desc svg object")[d.below(20)]
}

func (d *dice) names() []string {
	var l []string
	for range d.below(4) {
		l = append(l, d.name())
	}
	return l
}

// item is HTML most often; handles are few, so that many are there twice.
func (d *dice) item() Item[int] {
	x := Item[int]{H: d.below(12), NS: api.HTML, Name: d.name()}
	switch d.below(12) {
	case 0, 1:
		x.NS = api.SVG
	case 2:
		x.NS, x.Name = d.below(5)-1, ""
	}
	if d.below(3) == 0 {
		x.Attrs = []api.Attr{{Name: d.name(), Value: strconv.Itoa(d.below(9))}}
	}
	return x
}

// pairOf tells an element with its ok as a text.
func pairOf(x Item[int], ok bool) string { return text(x) + " " + strconv.FormatBool(ok) }

// calls are the kinds of calls that a run draws from; those that push come most often.
var calls = strings.Fields("push push push push push push pop top at place place remove replace after after has scope scope scope until imply thorough clear")

// step does one call that is drawn to both, and tells it and what both answered.
func step(d *dice, p pair, w *words) (said, got, want string) {
	p.t.Helper()
	call := calls[d.below(len(calls))]
	x, h, name, list := d.item(), d.below(12), d.name(), d.names()
	i, kind := d.below(max(w.length()+3, 6))-2, d.below(7)-1
	said = call + " " + text(x) + " " + strconv.Itoa(h) + " " + name + " [" + strings.Join(list, " ") + "] " + strconv.Itoa(i) + " " + strconv.Itoa(kind)
	switch call {
	case "push":
		p.push(x)
		w.items = append(w.items, x)
	case "pop":
		return said, pairOf(p.pop()), pairOf(w.pop())
	case "top":
		return said, pairOf(p.top()), pairOf(w.at(w.length() - 1))
	case "at":
		return said, pairOf(p.at(i)), pairOf(w.at(i))
	case "place":
		return said, strconv.Itoa(p.place(h)), strconv.Itoa(w.place(h))
	case "remove":
		return said, strconv.FormatBool(p.remove(h)), strconv.FormatBool(w.remove(h))
	case "replace":
		return said, strconv.FormatBool(p.replace(h, x)), strconv.FormatBool(w.replace(h, x))
	case "after":
		return said, strconv.FormatBool(p.after(h, x)), strconv.FormatBool(w.after(h, x))
	case "has":
		return said, strconv.FormatBool(p.has(name)), strconv.FormatBool(w.has(name))
	case "scope":
		return said, strconv.FormatBool(p.scope(kind, list...)), strconv.FormatBool(w.scope(kind, list...))
	case "until":
		return said, strconv.Itoa(p.until(list...)), strconv.Itoa(w.until(list...))
	case "imply":
		p.imply(name)
		w.imply(name)
	case "thorough":
		p.thorough()
		w.thorough()
	case "clear":
		p.clear(list...)
		w.clear(list...)
	}
	return said, "", ""
}

func (w *words) length() int { return len(w.items) }

// TestRunsAgainstTheWords holds lists against the promise's words, after each of many calls that are drawn.
func TestRunsAgainstTheWords(t *testing.T) {
	d := dice(18)
	told := map[string]int{}
	for range 1500 {
		p, w := newPair(t), &words{}
		var run []string
		for range 60 {
			said, got, want := step(&d, p, w)
			run = append(run, said)
			mustBe(t, said, got, want)
			mustBe(t, said+": the list", texts(p.all()), texts(w.items))
			if t.Failed() {
				t.Fatalf("the run:\n%s", strings.Join(run, "\n"))
			}
			call, _, _ := strings.Cut(said, " ")
			told[call+" "+got]++
		}
	}
	// What is drawn must come to both answers of each call that has two.
	for _, call := range []string{"remove", "replace", "after", "has", "scope"} {
		for _, answer := range []string{"true", "false"} {
			if told[call+" "+answer] < 100 {
				t.Errorf("%s: %d times %s", call, told[call+" "+answer], answer)
			}
		}
	}
}
