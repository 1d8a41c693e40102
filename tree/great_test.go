package tree

import (
	"strings"
	"testing"

	"arbour/api"
)

const (
	deepSteps = 200000
	wideKids  = 200000
)

func TestDeepTrees(t *testing.T) {
	x := chain(deepSteps, text("a"))
	if !Right(x) {
		t.Error("Right: false")
	}
	if got := Count(x); got != deepSteps+2 {
		t.Errorf("Count: %d", got)
	}
	if got := Depth(x); got != deepSteps+2 {
		t.Errorf("Depth: %d", got)
	}
	if got := Text(x); got != "a" {
		t.Errorf("Text: %q", got)
	}
	y := Copy(x)
	if !Same(x, y) || Count(y) != deepSteps+2 {
		t.Error("Copy: another tree")
	}
	for _, last := range []api.Tree{text("b"), comment("a"), el("b", text("a")), doc()} {
		if Same(x, chain(deepSteps, last)) || Same(chain(deepSteps, last), x) {
			t.Errorf("Same, but for %s: true", brief(last))
		}
	}
	for _, fault := range []api.Tree{text(""), doc(), content(), doctype(""), odd(9), el("template")} {
		if Right(chain(deepSteps, fault)) {
			t.Errorf("Right, but for %s: true", brief(fault))
		}
	}
}

// TestDeepKidFirstInTheMiddleAndLast has texts on the way down, and behind what is deep.
func TestDeepKidFirstInTheMiddleAndLast(t *testing.T) {
	deep := text("x")
	for range deepSteps {
		deep = el("b", deep)
	}
	for _, kids := range [][]api.Tree{{deep, text("y"), el("p")}, {el("p"), deep, text("y")}, {el("p", text("")), text(""), el("i", deep, text("y"))}} {
		x := doc(el("p", kids...))
		more := 0
		if kids[0].Name == "p" && len(kids[0].Kids) > 0 {
			more = 1
		}
		if got := Depth(x); got != deepSteps+3+more {
			t.Errorf("Depth: %d", got)
		}
		if got := Text(x); got != "xy" {
			t.Errorf("Text: %q", got)
		}
		if !Same(x, Copy(x)) {
			t.Error("Copy: another tree")
		}
	}
}

func TestDeepTemplates(t *testing.T) {
	x := text("a")
	for range deepSteps / 2 {
		x = el("template", content(x))
	}
	if !Right(doc(x)) || Depth(doc(x)) != deepSteps+2 {
		t.Error("templates within templates")
	}
	x = el("template")
	for range deepSteps / 2 {
		x = el("template", content(x))
	}
	if Right(doc(x)) {
		t.Error("the innermost one has no Contents: right")
	}
}

func TestShowOfDeepTrees(t *testing.T) {
	const steps = 6000
	var want strings.Builder
	for i := range steps {
		want.WriteString(strings.Repeat("  ", i) + "<b>\n")
	}
	want.WriteString(strings.Repeat("  ", steps) + "\"a\"\n")
	if got := Show(chain(steps, text("a"))); got != want.String() {
		t.Errorf("Show: %d bytes, want %d", len(got), want.Len())
	}
	// The answer would be greater than any may be, and than any memory: the call ends.
	Show(chain(deepSteps, text("a")))
	Show(chain(3*deepSteps, text("a")))
}

func TestBlanksAreCountedUpToTheBound(t *testing.T) {
	for steps, want := range map[int]int{0: 0, 1: 2, 2: 6, 46340: 46340 * 46341, 46341: -1, 50000: -1} {
		got, ok := blanks(chain(steps, text("a")))
		if want < 0 && (got != 0 || ok) || want >= 0 && (got != want || !ok) {
			t.Errorf("blanks of %d steps: %d, %v, want %d", steps, got, ok, want)
		}
	}
}

func TestWideTrees(t *testing.T) {
	kids := make([]api.Tree, 0, 2*wideKids)
	for range wideKids {
		kids = append(kids, text("a"), el("b"))
	}
	x := doc(el("p", kids...))
	if !Right(x) {
		t.Error("Right: false")
	}
	if got := Count(x); got != 2*wideKids+2 {
		t.Errorf("Count: %d", got)
	}
	if got := Depth(x); got != 3 {
		t.Errorf("Depth: %d", got)
	}
	if got := Text(x); got != strings.Repeat("a", wideKids) {
		t.Errorf("Text: %d bytes", len(got))
	}
	if got := Show(x); got != "<p>\n"+strings.Repeat("  \"a\"\n  <b>\n", wideKids) {
		t.Errorf("Show: %d bytes", len(got))
	}
	y := Copy(x)
	if !Same(x, y) {
		t.Error("Copy: another tree")
	}
	last := &y.Kids[0].Kids[2*wideKids-1]
	*last = text("b")
	if Right(y) || Same(x, y) || Same(y, x) {
		t.Error("the last of many is not seen")
	}
	*last = comment("b")
	if !Right(y) || Same(x, y) {
		t.Error("the last of many is not seen")
	}
}

// TestListsThatShareMemory: kids that lie in the list that their parent lies in are a tree, all the same.
func TestListsThatShareMemory(t *testing.T) {
	l := []api.Tree{el("a"), el("b"), el("c")}
	l[1].Kids = l[:1]
	l[2].Kids = l[:2]
	x := doc(l...)
	mustRight(t, x, true)
	mustMeasure(t, x, 8, 4, "")
	mustShow(t, x, "<a>", "<b>", "  <a>", "<c>", "  <a>", "  <b>", "    <a>")
	mustSame(t, x, doc(el("a"), el("b", el("a")), el("c", el("a"), el("b", el("a")))), true)
	mustSame(t, x, Copy(x), true)
}

// TestListsThatHoldThemselves: no tree is as deep as that, and nothing is promised but that calls end.
func TestListsThatHoldThemselves(t *testing.T) {
	one := []api.Tree{el("p")}
	one[0].Kids = one
	ring := []api.Tree{el("a"), el("b", text("x"), el("c")), text("y")}
	ring[0].Kids = ring
	ring[1].Kids[1].Kids = ring
	tail := []api.Tree{comment(""), el("p")}
	tail[1].Kids = tail
	many := make([]api.Tree, 40)
	for i := range many {
		many[i] = el("b")
		many[i].Kids = many
	}
	for _, x := range []api.Tree{doc(one...), doc(ring...), doc(many...), doc(tail...), chain(1000, el("p", ring...)), one[0], doc(text("a"), el("p", one...))} {
		if Right(x) {
			t.Error("Right of what is below itself: true")
		}
		Count(x)
		Depth(x)
		Text(x)
		Show(x)
		Same(x, x)
		y := Copy(x)
		if Same(x, chain(3, text("a"))) || Count(y) < 1 {
			t.Error("Same of what is below itself and what is not: true")
		}
	}
}
