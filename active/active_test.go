package active

import (
	"math"
	"testing"
)

// outside are the places that a list of n has none at.
func outside(n int) []int {
	return []int{n, n + 1, n + 1000, math.MaxInt, -1, -2, -n - 1, math.MinInt}
}

func TestRunOfTheChapter(t *testing.T) {
	p := newPair(t)
	p.push("b#1 b#2 b#3 b#4")
	p.mustHold("Push b four times", "b#2 b#3 b#4")
}

func TestExamplesOfTheChapter(t *testing.T) {
	p := newPair(t)
	p.push("b#1")
	p.mark()
	p.mustFind("b", "")
	p = newPair(t)
	p.push("b#1 i#2 u#3")
	p.clear()
	p.mustHold("Clear without a marker", "")
}

func TestEmptyList(t *testing.T) {
	p := newPair(t)
	p.mustHold("New", "")
	for _, i := range append(outside(0), 0) {
		if x, ok := p.at(i); ok {
			t.Errorf("At(%d): %s", i, text(x))
		}
	}
	// 0 is what an int that nobody set is: it is a handle as any other, and none is there.
	for _, h := range []int{0, 1, -1} {
		mustBe(t, "Place", p.place(h), -1)
		mustBe(t, "Remove", p.remove(h), false)
		mustBe(t, "Replace", p.replace(h, 1), false)
	}
	p.mustFind("b", "")
	p.mustFind("", "")
	p.clear()
	p.clear()
	mustBe(t, "From", p.from(func(int) bool { return true }), 0)
	mustBe(t, "From", p.from(func(int) bool { return false }), 0)
	p.mustHold("what is asked of an empty list", "")
	p.push("b#1")
	p.mustHold("Push behind all that", "b#1")
}

// TestPush: what is there already, what is pushed, and what is there then.
func TestPush(t *testing.T) {
	for _, c := range []struct{ there, pushed, want string }{
		{"", "b#1", "b#1"},
		{"", "b#1 b#2", "b#1 b#2"},
		{"", "b#1 b#2 b#3", "b#1 b#2 b#3"},
		{"", "b#1 b#2 b#3 b#4", "b#2 b#3 b#4"},
		{"", "b#1 b#2 b#3 b#4 b#5", "b#3 b#4 b#5"},
		{"", "b#1 b#2 b#3 b#4 b#5 b#6 b#7", "b#5 b#6 b#7"},
		// One handle may be there several times.
		{"", "b#1 b#1 b#1 b#1", "b#1 b#1 b#1"},
		{"", "b#0 b#0 b#0 b#-1", "b#0 b#0 b#-1"},
		// Others between them stay, the first ones and the last ones, too.
		{"i#1 b#2 u#3 b#4 i#5 b#6 u#7", "b#8", "i#1 u#3 b#4 i#5 b#6 u#7 b#8"},
		{"b#1 i#2 b#3 i#4 b#5 i#6", "b#7", "i#2 b#3 i#4 b#5 i#6 b#7"},
		{"b#1 i#2 b#3 i#4 b#5 i#6", "b#7 i#8", "b#3 i#4 b#5 i#6 b#7 i#8"},
		// Alike attributes, in any order, the first of each name.
		{"b#1[x=1] b#2[x=1] b#3[x=1]", "b#4[x=1]", "b#2[x=1] b#3[x=1] b#4[x=1]"},
		{"b#1[x=1][y=2] b#2[y=2][x=1] b#3[x=1][y=2]", "b#4[y=2][x=1]", "b#2[y=2][x=1] b#3[x=1][y=2] b#4[y=2][x=1]"},
		{"b#1[x=1][x=2] b#2[x=1] b#3[x=1][x=1]", "b#4[x=1][x=3][x=4]", "b#2[x=1] b#3[x=1][x=1] b#4[x=1][x=3][x=4]"},
		{"b#1[x=1][y=2][x=3] b#2[y=2][y=1][x=1] b#3[x=1][y=2]", "b#4[y=2][x=1][y=5]", "b#2[y=2][y=1][x=1] b#3[x=1][y=2] b#4[y=2][x=1][y=5]"},
		{"b#1[=] b#2[=] b#3[=]", "b#4[=]", "b#2[=] b#3[=] b#4[=]"},
		// Other attributes: another value, another name, another number of them, none.
		{"b#1[x=1] b#2[x=1] b#3[x=1]", "b#4[x=2]", "b#1[x=1] b#2[x=1] b#3[x=1] b#4[x=2]"},
		{"b#1[x=1] b#2[x=1] b#3[x=1]", "b#4[y=1]", "b#1[x=1] b#2[x=1] b#3[x=1] b#4[y=1]"},
		{"b#1[x=1] b#2[x=1] b#3[x=1]", "b#4[x=1][y=2]", "b#1[x=1] b#2[x=1] b#3[x=1] b#4[x=1][y=2]"},
		{"b#1[x=1][y=2] b#2[x=1][y=2] b#3[x=1][y=2]", "b#4[x=1]", "b#1[x=1][y=2] b#2[x=1][y=2] b#3[x=1][y=2] b#4[x=1]"},
		{"b#1[x=1][y=2] b#2[x=1][y=2] b#3[x=1][y=2]", "b#4[x=1][y=3]", "b#1[x=1][y=2] b#2[x=1][y=2] b#3[x=1][y=2] b#4[x=1][y=3]"},
		{"b#1[x=1][y=2] b#2[x=1][y=2] b#3[x=1][y=2]", "b#4[x=2][y=1]", "b#1[x=1][y=2] b#2[x=1][y=2] b#3[x=1][y=2] b#4[x=2][y=1]"},
		{"b#1[x=1] b#2[x=1] b#3[x=1]", "b#4", "b#1[x=1] b#2[x=1] b#3[x=1] b#4"},
		{"b#1 b#2 b#3", "b#4[x=1]", "b#1 b#2 b#3 b#4[x=1]"},
		{"b#1[x=2][x=1] b#2[x=1] b#3[x=1]", "b#4[x=1]", "b#1[x=2][x=1] b#2[x=1] b#3[x=1] b#4[x=1]"},
		{"b#1[x=1] b#2[x=2] b#3[x=1]", "b#4[x=1] b#5[x=1]", "b#2[x=2] b#3[x=1] b#4[x=1] b#5[x=1]"},
		{"b#1[x=1] b#2[X=1] b#3[x=1]", "b#4[x=1]", "b#1[x=1] b#2[X=1] b#3[x=1] b#4[x=1]"},
		// Another name, alike attributes.
		{"b#1[x=1] b#2[x=1] b#3[x=1]", "i#4[x=1]", "b#1[x=1] b#2[x=1] b#3[x=1] i#4[x=1]"},
		{"b#1 b#2 b#3", "B#4 _#5 bb#6", "b#1 b#2 b#3 B#4 _#5 bb#6"},
		{"b#1 i#2 b#3", "b#4", "b#1 i#2 b#3 b#4"},
		{"_#1 _#2 _#3", "_#4", "_#2 _#3 _#4"},
	} {
		p := made(t, c.there)
		p.push(c.pushed)
		p.mustHold(c.there+" and "+c.pushed, c.want)
	}
}

// TestPushAndMarkers: those ahead of the last marker are not counted, and none of them goes.
func TestPushAndMarkers(t *testing.T) {
	for _, c := range []struct{ there, pushed, want string }{
		{"|", "b#2 b#3 b#4 b#5", "| b#3 b#4 b#5"},
		{"b#1 b#2 b#3 |", "b#5", "b#1 b#2 b#3 | b#5"},
		{"b#1 b#2 b#3 |", "b#5 b#6 b#7", "b#1 b#2 b#3 | b#5 b#6 b#7"},
		{"b#1 b#2 b#3 |", "b#5 b#6 b#7 b#8", "b#1 b#2 b#3 | b#6 b#7 b#8"},
		{"b#1 b#2 | b#4", "b#5 b#6", "b#1 b#2 | b#4 b#5 b#6"},
		{"b#1 | b#3 b#4", "b#5 b#6", "b#1 | b#4 b#5 b#6"},
		{"b#1 | b#3 | b#5", "b#6 b#7", "b#1 | b#3 | b#5 b#6 b#7"},
		{"b#1 | b#3 | b#5", "b#6 b#7 b#8", "b#1 | b#3 | b#6 b#7 b#8"},
		{"b#1 b#2 b#3 | |", "b#6", "b#1 b#2 b#3 | | b#6"},
		{"b#1 | b#3 b#4 b#5 | i#7", "b#8", "b#1 | b#3 b#4 b#5 | i#7 b#8"},
		// A marker's name is empty, and it has no attributes: it is no entry for all that.
		{"_#1 _#2 |", "_#4", "_#1 _#2 | _#4"},
		{"| | |", "_#4", "| | | _#4"},
		{"| _#2 _#3", "_#4", "| _#2 _#3 _#4"},
	} {
		p := made(t, c.there)
		p.push(c.pushed)
		p.mustHold(c.there+" and "+c.pushed, c.want)
	}
	p := newPair(t)
	p.push("b#1 b#2 b#3")
	p.mark()
	p.push("b#4 b#5 b#6")
	p.clear()
	p.push("b#7")
	p.mustHold("the marker is gone", "b#2 b#3 b#7")
	p = newPair(t)
	p.push("b#1 b#2 b#3")
	p.mark()
	p.remove(2)
	p.push("b#4")
	p.clear()
	p.push("b#5 b#6")
	p.mustHold("and one that was ahead of it", "b#3 b#5 b#6")
}

// TestPushBehindPut: of more than three the first goes, and no other.
func TestPushBehindPut(t *testing.T) {
	for _, c := range []struct{ there, pushed, want string }{
		{"b#1 b#2 b#3 b#4", "b#5", "b#2 b#3 b#4 b#5"},
		{"b#1 b#2 b#3 b#4", "b#5 b#6", "b#3 b#4 b#5 b#6"},
		{"b#1 b#2 b#3 b#4 b#5 b#6", "b#7", "b#2 b#3 b#4 b#5 b#6 b#7"},
		{"i#1 b#2 i#3 b#4 b#5 b#6 i#7 b#8", "b#9", "i#1 i#3 b#4 b#5 b#6 i#7 b#8 b#9"},
		{"b#1 b#2 b#3 b#4 | b#6 b#7 b#8 b#9", "b#10", "b#1 b#2 b#3 b#4 | b#7 b#8 b#9 b#10"},
		{"b#1 b#2 b#3 b#4 | b#6 b#7", "b#8", "b#1 b#2 b#3 b#4 | b#6 b#7 b#8"},
		{"b#1 b#2 b#3 b#4", "i#5", "b#1 b#2 b#3 b#4 i#5"},
	} {
		p := made(t, c.there)
		p.push(c.pushed)
		p.mustHold(c.there+" and "+c.pushed, c.want)
	}
	p := newPair(t)
	p.push("b#1 b#2 b#3")
	p.put(0, "b#4")
	p.push("b#5")
	p.mustHold("the one that was put first is the first", "b#1 b#2 b#3 b#5")
	p.put(2, "b#6")
	p.push("b#7")
	p.mustHold("the one that was put in the middle is not", "b#2 b#6 b#3 b#5 b#7")
	p.mark()
	p.put(9, "b#8")
	p.put(6, "b#9")
	p.push("b#10 b#11")
	p.mustHold("behind a marker", "b#2 b#6 b#3 b#5 b#7 | b#8 b#10 b#11")
}

// TestPushBehindReplace: another handle makes an entry no other one.
func TestPushBehindReplace(t *testing.T) {
	p := newPair(t)
	p.push("b#1[x=1] b#2[x=1] b#3[x=1]")
	p.replace(1, 7)
	p.replace(3, 8)
	p.push("b#4[x=1]")
	p.mustHold("Push", "b#2[x=1] b#8[x=1] b#4[x=1]")
	p.remove(8)
	p.push("b#5[x=1]")
	p.mustHold("Push behind Remove", "b#2[x=1] b#4[x=1] b#5[x=1]")
}

func TestMark(t *testing.T) {
	p := newPair(t)
	p.mark()
	p.mustHold("alone", "|")
	p.mark()
	p.mustHold("twice in a row", "| |")
	p.push("b#1")
	p.mark()
	p.mustHold("behind an entry", "| | b#1 |")
	p.push("_#0")
	p.mark()
	p.mark()
	p.mark()
	p.mark()
	p.mustHold("no marker goes", "| | b#1 | _#0 | | | |")
	x, ok := p.at(0)
	if !ok || !x.Marker || x.H != 0 || x.Name != "" || len(x.Attrs) != 0 {
		t.Errorf("a marker is told as %v, %v", x, ok)
	}
	if x, ok = p.at(4); !ok || x.Marker {
		t.Errorf("an entry that has nothing is told as %v, %v", x, ok)
	}
}

func TestClear(t *testing.T) {
	for _, c := range []struct{ there, want string }{
		{"", ""},
		{"b#1", ""},
		{"b#1 b#2 b#3 b#4 i#5", ""},
		{"|", ""},
		{"| b#2", ""},
		{"| b#2 i#3 b#4", ""},
		{"b#1 |", "b#1"},
		{"b#1 i#2 | b#4 u#5", "b#1 i#2"},
		{"b#1 | i#3 | u#5", "b#1 | i#3"},
		{"b#1 | i#3 | u#5 |", "b#1 | i#3 | u#5"},
		{"| |", "|"},
		{"b#1 | |", "b#1 |"},
		{"b#1 | | i#4", "b#1 |"},
		{"| _#0", ""},
		{"_#0 | _#0", "_#0"},
	} {
		p := made(t, c.there)
		p.clear()
		p.mustHold("Clear of "+c.there, c.want)
	}
	p := made(t, "b#1 | i#3 | u#5 |")
	for _, want := range []string{"b#1 | i#3 | u#5", "b#1 | i#3", "b#1", "", ""} {
		p.clear()
		p.mustHold("Clear again", want)
	}
	p.push("b#1")
	p.mustHold("Push behind it", "b#1")
}

func TestFind(t *testing.T) {
	for _, c := range []struct{ there, name, want string }{
		{"", "b", ""},
		{"i#1", "b", ""},
		{"b#1", "b", "b#1"},
		{"b#1", "B", ""},
		{"b#1", "bb", ""},
		{"bb#1", "b", ""},
		{"b#1 i#2 u#3", "b", "b#1"},
		{"i#1 b#2 u#3", "b", "b#2"},
		{"i#1 u#2 b#3", "b", "b#3"},
		{"b#1 b#2 b#3", "b", "b#3"},
		{"b#1 i#2 b#3 i#4", "b", "b#3"},
		{"b#1[x=1] b#2[y=2][x=1] i#3[z=3]", "b", "b#2[y=2][x=1]"},
		{"b#1 |", "b", ""},
		{"b#1 | i#3", "b", ""},
		{"b#1 | i#3", "i", "i#3"},
		{"b#1 | b#3 i#4", "b", "b#3"},
		{"b#1 | b#3 | b#5", "b", "b#5"},
		{"b#1 | b#3 | i#5", "b", ""},
		{"|", "b", ""},
		// An empty name is a name.
		{"b#1", "_", ""},
		{"_#1", "_", "_#1"},
		{"_#1 b#2", "_", "_#1"},
		{"_#1", "b", ""},
		{"|", "_", ""},
		{"_#1 |", "_", ""},
		{"_#1 | _#0", "_", "_#0"},
		{"b#0", "b", "b#0"},
	} {
		p := made(t, c.there)
		p.mustFind(en(c.name).Name, c.want)
		p.mustHold("Find in "+c.there, c.there)
	}
	// A marker that is no more there hides nothing.
	p := made(t, "b#1 | i#3")
	p.clear()
	p.mustFind("b", "b#1")
	p.mustFind("i", "")
	p.remove(1)
	p.mustFind("b", "")
}

func TestPlace(t *testing.T) {
	for _, c := range []struct {
		there   string
		h, want int
	}{
		{"b#7", 7, 0},
		{"b#7", 6, -1},
		{"b#7", 0, -1},
		{"b#7", -7, -1},
		{"b#1 i#2 u#3", 1, 0},
		{"b#1 i#2 u#3", 2, 1},
		{"b#1 i#2 u#3", 3, 2},
		{"b#1 i#2 u#3", 4, -1},
		{"b#1 i#2 u#1", 1, 2},
		{"b#1 i#1 u#2", 1, 1},
		{"b#1 i#1 u#1", 1, 2},
		// Markers stand in places, and hide nothing.
		{"b#1 | i#2", 1, 0},
		{"b#1 | i#2", 2, 2},
		{"b#1 | i#1", 1, 2},
		{"| | b#1 |", 1, 2},
		// They have no handle, be it zero.
		{"|", 0, -1},
		{"b#1 |", 0, -1},
		{"b#0 |", 0, 0},
		{"| b#0 | |", 0, 1},
		{"b#0 | b#0 | i#1", 0, 2},
		{"b#9223372036854775807 b#-9223372036854775808", math.MaxInt, 0},
		{"b#9223372036854775807 b#-9223372036854775808", math.MinInt, 1},
	} {
		p := made(t, c.there)
		mustBe(t, "Place in "+c.there, p.place(c.h), c.want)
		p.mustHold("Place", c.there)
	}
}

func TestRemove(t *testing.T) {
	for _, c := range []struct {
		there string
		h     int
		ok    bool
		want  string
	}{
		{"b#7", 7, true, ""},
		{"b#7", 6, false, "b#7"},
		{"b#1 i#2 u#3", 1, true, "i#2 u#3"},
		{"b#1 i#2 u#3", 2, true, "b#1 u#3"},
		{"b#1 i#2 u#3", 3, true, "b#1 i#2"},
		{"b#1 i#2 u#3", 4, false, "b#1 i#2 u#3"},
		{"b#1 i#2 u#3", 0, false, "b#1 i#2 u#3"},
		{"b#1 i#1 u#2", 1, true, "b#1 u#2"},
		{"b#1 i#2 u#1", 1, true, "b#1 i#2"},
		{"b#1 | i#3", 1, true, "| i#3"},
		{"b#1 | i#3", 3, true, "b#1 |"},
		{"b#1 | b#1", 1, true, "b#1 |"},
		{"b#1 | i#3", 0, false, "b#1 | i#3"},
		{"|", 0, false, "|"},
		{"b#0 | |", 0, true, "| |"},
	} {
		p := made(t, c.there)
		mustBe(t, "Remove in "+c.there, p.remove(c.h), c.ok)
		p.mustHold("Remove in "+c.there, c.want)
	}
	p := made(t, "b#1 i#1 | u#1 |")
	for _, want := range []string{"b#1 i#1 | |", "b#1 | |", "| |"} {
		mustBe(t, "Remove again", p.remove(1), true)
		p.mustHold("Remove again", want)
	}
	mustBe(t, "Remove of what is gone", p.remove(1), false)
	p.mustHold("Remove of what is gone", "| |")
}

func TestReplace(t *testing.T) {
	for _, c := range []struct {
		there   string
		h, with int
		ok      bool
		want    string
	}{
		{"b#7[x=1][y=2]", 7, 8, true, "b#8[x=1][y=2]"},
		{"b#7", 7, 7, true, "b#7"},
		{"b#7", 7, 0, true, "b#0"},
		{"b#7", 8, 7, false, "b#7"},
		{"b#1 i#2 u#3[x=1]", 1, 9, true, "b#9 i#2 u#3[x=1]"},
		{"b#1 i#2 u#3[x=1]", 2, 9, true, "b#1 i#9 u#3[x=1]"},
		{"b#1 i#2 u#3[x=1]", 3, 9, true, "b#1 i#2 u#9[x=1]"},
		{"b#1 i#2 u#3[x=1]", 4, 9, false, "b#1 i#2 u#3[x=1]"},
		{"b#1 i#1 u#2", 1, 9, true, "b#1 i#9 u#2"},
		{"b#1 i#2 u#1", 1, 9, true, "b#1 i#2 u#9"},
		// With one that is there already, be it ahead or behind.
		{"b#1 i#2 u#3", 1, 3, true, "b#3 i#2 u#3"},
		{"b#1 i#2 u#3", 3, 1, true, "b#1 i#2 u#1"},
		{"b#1 b#2 b#3", 2, 3, true, "b#1 b#3 b#3"},
		{"b#1 | i#3", 1, 9, true, "b#9 | i#3"},
		{"b#1 | i#1", 1, 9, true, "b#1 | i#9"},
		{"b#1 | i#3", 0, 9, false, "b#1 | i#3"},
		{"|", 0, 9, false, "|"},
		{"| b#0 |", 0, 9, true, "| b#9 |"},
	} {
		p := made(t, c.there)
		mustBe(t, "Replace in "+c.there, p.replace(c.h, c.with), c.ok)
		p.mustHold("Replace in "+c.there, c.want)
	}
	p := made(t, "b#1 i#2 u#3")
	p.replace(1, 3)
	mustBe(t, "Place of a handle that came twice", p.place(3), 2)
	p.replace(3, 4)
	mustBe(t, "Place of the first of them", p.place(3), 0)
	mustBe(t, "Place of what was replaced", p.place(1), -1)
	p.mustFind("b", "b#3")
}

func TestPut(t *testing.T) {
	for _, c := range []struct {
		there string
		i     int
		put   string
		want  string
	}{
		{"", 0, "b#1", "b#1"},
		{"", 1, "b#1", "b#1"},
		{"", -1, "b#1", "b#1"},
		{"", math.MaxInt, "b#1", "b#1"},
		{"", math.MinInt, "b#1", "b#1"},
		{"i#1 u#2", 0, "b#9[x=1]", "b#9[x=1] i#1 u#2"},
		{"i#1 u#2", 1, "b#9[x=1]", "i#1 b#9[x=1] u#2"},
		{"i#1 u#2", 2, "b#9[x=1]", "i#1 u#2 b#9[x=1]"},
		{"i#1 u#2", 3, "b#9[x=1]", "i#1 u#2 b#9[x=1]"},
		{"i#1 u#2", math.MaxInt, "b#9", "i#1 u#2 b#9"},
		{"i#1 u#2", -1, "b#9", "b#9 i#1 u#2"},
		{"i#1 u#2", -2, "b#9", "b#9 i#1 u#2"},
		{"i#1 u#2", math.MinInt, "b#9", "b#9 i#1 u#2"},
		{"i#1 |", 1, "b#9", "i#1 b#9 |"},
		{"i#1 |", 2, "b#9", "i#1 | b#9"},
		{"| |", 0, "b#0", "b#0 | |"},
		{"| |", 1, "_#0", "| _#0 |"},
		// A handle may be there already.
		{"i#1 u#2", 1, "b#1", "i#1 b#1 u#2"},
		// None goes, however many are alike.
		{"b#1 b#2 b#3", 0, "b#4", "b#4 b#1 b#2 b#3"},
		{"b#1 b#2 b#3", 2, "b#4", "b#1 b#2 b#4 b#3"},
		{"b#1 b#2 b#3", 3, "b#4", "b#1 b#2 b#3 b#4"},
		{"b#1 b#2 b#3 b#4", 9, "b#5", "b#1 b#2 b#3 b#4 b#5"},
		{"b#1 b#2 b#3 b#4", -9, "b#5", "b#5 b#1 b#2 b#3 b#4"},
	} {
		p := made(t, c.there)
		p.put(c.i, c.put)
		p.mustHold("Put in "+c.there, c.want)
	}
}

func TestAtEachPlace(t *testing.T) {
	const there = "b#1 i#0[x=1][y=2] | _#3 u#-4[=]"
	p := made(t, there)
	want := ens(there)
	for i, w := range want {
		x, ok := p.at(i)
		mustBe(t, "At", ok, true)
		mustBe(t, "At", text(x), text(w))
		mustBe(t, "At", x.Marker, w.Marker)
	}
	for _, i := range outside(len(want)) {
		if x, ok := p.at(i); ok {
			t.Errorf("At(%d) of %d: %s", i, len(want), text(x))
		}
	}
	p.mustHold("At", there)
}

func TestLen(t *testing.T) {
	p := newPair(t)
	for _, c := range []struct {
		do   func()
		want int
	}{
		{func() {}, 0},
		{func() { p.push("b#1") }, 1},
		{p.mark, 2},
		{func() { p.push("b#2 b#3 b#4") }, 5},
		{func() { p.push("b#5") }, 5},
		{func() { p.put(0, "b#6") }, 6},
		{func() { p.remove(6) }, 5},
		{func() { p.remove(6) }, 5},
		{func() { p.replace(5, 6) }, 5},
		{p.clear, 1},
		{p.clear, 0},
		{p.clear, 0},
	} {
		c.do()
		mustBe(t, "Len", p.length(), c.want)
	}
}
