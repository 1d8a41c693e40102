package mason

import (
	"slices"
	"testing"

	"arbour/api"
	"arbour/chars"
	"arbour/names"
	"arbour/open"
)

// someNames are those that a mark is for, and others.
const someNames = "html table template td p b div li ol button svg title foreignObject clipPath g address object span"

// placeIn tells the place of the last open element that ok holds for; -1 of none.
func placeIn(e *elements, ok func(x open.Item[int]) bool) int {
	for i := e.Len() - 1; i >= 0; i-- {
		if x, _ := e.At(i); ok(x) {
			return i
		}
	}
	return -1
}

// mustTell holds all that is kept ready against what is open.
func mustTell(t *testing.T, e *elements, handles int) {
	t.Helper()
	for _, name := range []string{"html", "table", "template", "td", "p", "b", "div", "li", "ol", "button", "svg", "title", "object", "foreignObject", "none"} {
		if got := e.Has(name); got != e.List.Has(name) {
			t.Fatalf("Has(%s): %v", name, got)
		}
		for _, scope := range []int{open.Any, open.Lists, open.Buttons, open.Tables} {
			if got := e.Scope(scope, name, "span"); got != e.List.Scope(scope, name, "span") {
				t.Fatalf("Scope(%d, %s, span): %v", scope, name, got)
			}
			if got := e.Scope(scope, name); got != e.List.Scope(scope, name) {
				t.Fatalf("Scope(%d, %s): %v", scope, name, got)
			}
		}
		if got, want := e.last(name, "span"), placeIn(e, func(x open.Item[int]) bool { return isOf(x, name, "span") }); got != want {
			t.Fatalf("last(%s, span): %d, want %d", name, got, want)
		}
		small := chars.Lower(name)
		if got, want := e.place(api.SVG, small), placeIn(e, func(x open.Item[int]) bool { return x.NS == api.SVG && chars.Lower(x.Name) == small }); got != want {
			t.Fatalf("place(SVG, %s): %d, want %d", small, got, want)
		}
	}
	for mark, ok := range map[int]func(x open.Item[int]) bool{
		open.Any:     func(x open.Item[int]) bool { return names.Bound(x.NS, x.Name) },
		open.Lists:   func(x open.Item[int]) bool { return names.Bound(x.NS, x.Name) || isOf(x, "ol", "ul") },
		open.Buttons: func(x open.Item[int]) bool { return names.Bound(x.NS, x.Name) || isOf(x, "button") },
		open.Tables:  func(x open.Item[int]) bool { return isOf(x, "html", "table", "template") },
		plain:        func(x open.Item[int]) bool { return x.NS == api.HTML },
		special:      func(x open.Item[int]) bool { return names.Special(x.NS, x.Name) },
		wall:         func(x open.Item[int]) bool { return names.Special(x.NS, x.Name) && !isOf(x, "address", "div", "p") },
	} {
		if got, want := e.mark(mark), placeIn(e, ok); got != want {
			t.Fatalf("mark(%d): %d, want %d", mark, got, want)
		}
	}
	for h := range handles + 2 {
		if got := e.Place(h); got != e.List.Place(h) {
			t.Fatalf("Place(%d): %d, want %d", h, got, e.List.Place(h))
		}
		in := h > 0 && e.List.Place(h) >= 0 && placeIn(e, func(x open.Item[int]) bool { return x.H == h || names.Bound(x.NS, x.Name) }) == e.List.Place(h)
		if got := e.hasInScope(h); got != in {
			t.Fatalf("hasInScope(%d): %v", h, got)
		}
	}
	x, _ := e.Top()
	if got := e.isIn("p", "b"); got != (x.NS == api.HTML && slices.Contains([]string{"p", "b"}, x.Name)) {
		t.Fatalf("isIn(p, b): %v", got)
	}
}

// TestDrawnElements: whatever is done to the open elements, by a call of the list itself, too, what is kept ready is right.
func TestDrawnElements(t *testing.T) {
	d := dice(222)
	for range 120 {
		e, handles := newElements(), 0
		item := func() open.Item[int] {
			handles++
			return open.Item[int]{H: handles, NS: []int{api.HTML, api.HTML, api.SVG}[d.draw(3)], Name: d.of(someNames)}
		}
		some := func() open.Item[int] {
			x, _ := e.At(d.draw(e.Len()))
			return x
		}
		for range 40 {
			switch kind := d.draw(16); {
			case kind < 8 || e.Len() == 0:
				e.Push(item())
			case kind < 9:
				e.After(some().H, item())
			case kind < 10:
				was, x := some(), item()
				x.NS, x.Name = was.NS, was.Name
				e.Replace(was.H, x)
			case kind < 11:
				e.Remove(some().H)
			case kind < 12:
				e.Remove(handles + 1)
			case kind < 13:
				e.Pop()
			case kind < 14:
				e.close(d.of(someNames), d.of(someNames))
			case kind < 15:
				e.cut(d.draw(e.Len() + 2))
			default:
				e.Thorough()
				e.Clear("table", "tr")
			}
			// Not behind each one, so that several may meet.
			if d.draw(3) > 0 {
				mustTell(t, e, handles)
			}
		}
		mustTell(t, e, handles)
	}
}

// TestClosed: what is implied above the last one of some names is closed with it, but not what is left out; all above it goes, whatever it is.
func TestClosed(t *testing.T) {
	e := newElements()
	for i, name := range []string{"html", "p", "div", "li", "b", "dd"} {
		e.Push(open.Item[int]{H: i + 1, NS: api.HTML, Name: name})
	}
	e.close("dd", "dd", "p")
	if e.Len() != 5 {
		t.Errorf("%d are open, want 5", e.Len())
	}
	e.close("", "div", "p")
	if e.Len() != 2 || !e.isIn("p") {
		t.Errorf("%d are open, want 2", e.Len())
	}
	e.cut(0)
	if e.Len() != 0 || e.mark(open.Any) != -1 || e.Has("html") || e.Place(1) != -1 || e.isIn("p") {
		t.Errorf("%d are open", e.Len())
	}
	e.Push(open.Item[int]{H: 7, NS: api.HTML, Name: "html"})
	if !e.Has("html") || e.Place(7) != 0 || e.Place(1) != -1 {
		t.Errorf("7 is at %d", e.Place(7))
	}
}
