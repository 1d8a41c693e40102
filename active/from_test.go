package active

import (
	"slices"
	"strconv"
	"strings"
	"testing"
)

// opened is a pair of entries, an o for each that is meant and an x for each that is not, and of markers, and tells of a handle whether it is meant.
func opened(t *testing.T, s string) (pair, func(h int) bool) {
	p := newPair(t)
	var meant []int
	for i, one := range strings.Split(s, "") {
		if one == "|" {
			p.mark()
			continue
		}
		p.put(i, one+"#"+strconv.Itoa(i+1))
		if one == "o" {
			meant = append(meant, i+1)
		}
	}
	return p, func(h int) bool {
		if h < 1 || h > len(s) || s[h-1] == '|' {
			t.Errorf("From asked for %d in %s", h, s)
		}
		return slices.Contains(meant, h)
	}
}

func TestFrom(t *testing.T) {
	for _, c := range []struct {
		s    string
		want int
	}{
		{"", 0},
		// A marker is the last one.
		{"|", 1},
		{"||", 2},
		{"x|", 2},
		{"o|", 2},
		{"xx|", 3},
		{"xox|", 4},
		// The last one is meant.
		{"o", 1},
		{"oo", 2},
		{"xo", 2},
		{"|o", 2},
		{"xxxo", 4},
		{"x|xo", 4},
		// One in the middle is.
		{"ox", 1},
		{"oxx", 1},
		{"xox", 2},
		{"xoxx", 2},
		{"oxox", 3},
		{"ooxx", 2},
		{"xoxxxx", 2},
		// A marker is in the middle.
		{"|x", 1},
		{"|xx", 1},
		{"x|x", 2},
		{"x|xx", 2},
		{"o|xx", 2},
		{"||xx", 2},
		{"x||x", 3},
		{"x|x|x", 4},
		// Both are: the last one of them counts.
		{"o|x", 2},
		{"|ox", 2},
		{"x|oxx", 3},
		{"xo|xx", 3},
		{"|xox", 3},
		{"ox|x", 3},
		// None is meant, and there is no marker.
		{"x", 0},
		{"xx", 0},
		{"xxxxx", 0},
	} {
		p, is := opened(t, c.s)
		mustBe(t, "From of "+c.s, p.from(is), c.want)
		mustBe(t, "Len behind From of "+c.s, p.length(), len(c.s))
	}
}

// TestFromOfAllShort asks each list of at most six for the place by the promise's words: all from there on are neither, and the one below is.
func TestFromOfAllShort(t *testing.T) {
	all := []string{""}
	for n := 0; n < len(all) && len(all[n]) < 6; n++ {
		all = append(all, all[n]+"x", all[n]+"o", all[n]+"|")
	}
	mustBe(t, "lists", len(all), 1+3+9+27+81+243+729)
	for _, s := range all {
		p, is := opened(t, s)
		want := strings.LastIndexAny(s, "o|") + 1
		mustBe(t, "From of "+s, p.from(is), want)
	}
}

// TestFromOfOneHandle: entries of one handle are meant, or not, all at once.
func TestFromOfOneHandle(t *testing.T) {
	p := made(t, "b#7 i#8 u#7 s#9 | b#8")
	mustBe(t, "From", p.from(func(h int) bool { return h == 8 }), 6)
	mustBe(t, "From", p.from(func(h int) bool { return h == 7 }), 5)
	p.clear()
	mustBe(t, "From", p.from(func(h int) bool { return h == 7 }), 3)
	mustBe(t, "From", p.from(func(h int) bool { return h == 8 }), 2)
	mustBe(t, "From", p.from(func(h int) bool { return h == 9 }), 4)
	mustBe(t, "From", p.from(func(h int) bool { return h == 0 }), 0)
	p.replace(9, 0)
	mustBe(t, "From", p.from(func(h int) bool { return h == 0 }), 4)
}

func TestFromOfNoFunction(t *testing.T) {
	for _, s := range []string{"", "b#1", "b#1 |", "| b#1 i#2"} {
		p := made(t, s)
		mustBe(t, "From with ints", p.ints.From(nil), 0)
		mustBe(t, "From with texts", p.texts.From(nil), 0)
		p.mustHold("From", s)
	}
}

// TestFromOfAFunctionThatPanics: the call does not, and the list is as it was.
func TestFromOfAFunctionThatPanics(t *testing.T) {
	p := made(t, "b#1 | i#2 u#3")
	for _, what := range []any{"a", nil, 1} {
		mustBe(t, "From", p.from(func(int) bool { panic(what) }), 0)
		mustBe(t, "From", p.from(func(h int) bool { return h != 3 && []bool{}[h] }), 0)
	}
	p.mustHold("From", "b#1 | i#2 u#3")
	mustBe(t, "From of one that does not", p.from(func(h int) bool { return h == 2 }), 3)
}
