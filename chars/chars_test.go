package chars

import (
	"math"
	"slices"
	"strings"
	"testing"
	"unsafe"
)

const (
	spaces  = "\t\n\f\r "
	letters = "abcdefghijklmnopqrstuvwxyzABCDEFGHIJKLMNOPQRSTUVWXYZ"
	digits  = "0123456789"
)

// hexValue is written out, so that it hangs on no sum of the program's.
var hexValue = map[rune]int{
	'0': 0, '1': 1, '2': 2, '3': 3, '4': 4, '5': 5, '6': 6, '7': 7, '8': 8, '9': 9,
	'a': 10, 'b': 11, 'c': 12, 'd': 13, 'e': 14, 'f': 15,
	'A': 10, 'B': 11, 'C': 12, 'D': 13, 'E': 14, 'F': 15,
}

func in(r rune, list string) bool { return slices.Contains([]rune(list), r) }

// mustKinds holds r against the written lists.
func mustKinds(t *testing.T, r rune) {
	t.Helper()
	if got := Space(r); got != in(r, spaces) {
		t.Errorf("Space(%#x): %v", r, got)
	}
	if got := Letter(r); got != in(r, letters) {
		t.Errorf("Letter(%#x): %v", r, got)
	}
	if got := Digit(r); got != in(r, digits) {
		t.Errorf("Digit(%#x): %v", r, got)
	}
	want, yes := hexValue[r]
	if n, ok := Hex(r); n != want || ok != yes {
		t.Errorf("Hex(%#x): %d, %v, want %d, %v", r, n, ok, want, yes)
	}
}

func mustSplit(t *testing.T, s string, want ...string) {
	t.Helper()
	if got := Split(s); !slices.Equal(got, want) {
		t.Errorf("Split(%q): %q, want %q", s, got, want)
	}
}

func TestRunOfTheChapter(t *testing.T) {
	mustSplit(t, "a b ", "a", " ", "b", " ")
}

func TestExamplesOfTheChapter(t *testing.T) {
	for _, r := range "\u00e4\u00f6\u00fc\u00c4\u00d6\u00dc" {
		if Letter(r) {
			t.Errorf("Letter(%q): true", r)
		}
	}
	mustSplit(t, "")
	if len(Split("")) != 0 {
		t.Errorf("Split of nothing: %q", Split(""))
	}
}

// P4.1: every rune up to 300, and below 0 as far.
func TestKindsOfSmallRunes(t *testing.T) {
	for r := rune(-300); r <= 300; r++ {
		mustKinds(t, r)
	}
}

// P4.1: each bound, told by itself, so that the lists above are not believed alone.
func TestKindsAtTheirBounds(t *testing.T) {
	for _, c := range []struct {
		kind                 func(rune) bool
		least, greatest, dot rune
	}{
		{Letter, 'a', 'z', 'm'}, {Letter, 'A', 'Z', 'M'}, {Digit, '0', '9', '5'},
		{Space, '\t', '\n', '\t'}, {Space, '\f', '\r', '\f'}, {Space, ' ', ' ', ' '},
	} {
		if !c.kind(c.least) || !c.kind(c.greatest) || !c.kind(c.dot) {
			t.Errorf("%q to %q: not all", c.least, c.greatest)
		}
		if c.kind(c.least-1) || c.kind(c.greatest+1) {
			t.Errorf("just beside %q to %q: one of them", c.least, c.greatest)
		}
	}
	for _, r := range "/:@G`g" {
		if n, ok := Hex(r); n != 0 || ok {
			t.Errorf("Hex(%q): %d, %v", r, n, ok)
		}
	}
}

// P4.1: what others take for spaces, letters and digits, and U+FFFD.
func TestKindsAboveSevenBits(t *testing.T) {
	for _, r := range []rune{
		0x85, 0xA0, 0x1680, 0x2000, 0x2003, 0x2028, 0x2029, 0x202F, 0x205F, 0x3000, 0xFEFF,
		0xAA, 0xB5, 0xC4, 0xDF, 0xE4, 0xFC, 0x130, 0x131, 0x17F, 0x212A, 0x410, 0x430, 0xFF21, 0xFF41, 0xFF5A, 0x1D400,
		0xB2, 0xBC, 0x660, 0x6F0, 0x966, 0xFF10, 0xFF19, 0xFF26, 0x1D7CE,
		0xFFFD, 0xFFFE, 0xFFFF, 0x10000, 0x10FFFF,
	} {
		mustKinds(t, r)
	}
}

// P4.1, R1: surrogates, below 0, above the greatest; and numbers of which some bits alone are those of a kind.
func TestKindsOfNumbersThatAreNoRunes(t *testing.T) {
	for _, r := range []rune{-1, math.MinInt32, math.MinInt32 + 'a', 0xD800, 0xDBFF, 0xDC00, 0xDFFF, 0x110000, math.MaxInt32} {
		mustKinds(t, r)
	}
	for _, r := range spaces + letters + digits {
		for bit := 7; bit < 31; bit++ {
			mustKinds(t, r+1<<bit)
			mustKinds(t, r-1<<bit)
		}
		mustKinds(t, -r)
	}
}

// P4.1
func TestLower(t *testing.T) {
	for s, want := range map[string]string{
		"":                           "",
		"ABCDEFGHIJKLMNOPQRSTUVWXYZ": "abcdefghijklmnopqrstuvwxyz",
		"abcdefghijklmnopqrstuvwxyz": "abcdefghijklmnopqrstuvwxyz",
		"@AZ[`az{":                   "@az[`az{",
		"foreignObject":              "foreignobject",
		"0 9\t\n\x00\x7F-_":          "0 9\t\n\x00\x7F-_",
		"\u00c4A\u00d6\u0130\u212aK": "\u00c4a\u00d6\u0130\u212ak",
		"\u0410\uff21\U00010400B":    "\u0410\uff21\U00010400b",
	} {
		if got := Lower(s); got != want {
			t.Errorf("Lower(%q): %q, want %q", s, got, want)
		}
	}
}

// P4.1: all other bytes stay as they are, each alone and between two that do not.
func TestLowerOfEveryByte(t *testing.T) {
	for c := range 256 {
		s := string([]byte{byte(c)})
		want := s
		if at := strings.Index("ABCDEFGHIJKLMNOPQRSTUVWXYZ", s); at >= 0 {
			want = "abcdefghijklmnopqrstuvwxyz"[at : at+1]
		}
		if got := Lower(s); got != want {
			t.Errorf("Lower(%q): %q, want %q", s, got, want)
		}
		if got := Lower("X" + s + "Y"); got != "x"+want+"y" {
			t.Errorf("Lower(%q): %q", "X"+s+"Y", got)
		}
	}
}

// P4.1
func TestSpaces(t *testing.T) {
	for _, s := range []string{"", " ", "\t", "\n", "\f", "\r", "\t\n\f\r ", "      ", "\r\n\r\n"} {
		if !Spaces(s) {
			t.Errorf("Spaces(%q): false", s)
		}
	}
	for _, s := range []string{"a", "\v", "\x00", "\b", "\x0E", "\x1F", "!", "\u0085", "\u00a0", "\u2003", "\u3000", "\ufeff", "\ufffd", "\x80", "\xA0", "\xFF", "\xE2\x80", "\xC0\xA0"} {
		for _, text := range []string{s, " " + s, s + " ", "\t\n" + s + "\f\r ", s + s} {
			if Spaces(text) {
				t.Errorf("Spaces(%q): true", text)
			}
		}
	}
}

// P4.1: the first and the last run of either kind.
func TestSplit(t *testing.T) {
	mustSplit(t, " ", " ")
	mustSplit(t, "\t\n\f\r ", "\t\n\f\r ")
	mustSplit(t, "a", "a")
	mustSplit(t, "abc", "abc")
	mustSplit(t, "a b", "a", " ", "b")
	mustSplit(t, "a ", "a", " ")
	mustSplit(t, " a", " ", "a")
	mustSplit(t, " a ", " ", "a", " ")
	mustSplit(t, "ab \n\tcd\r\n", "ab", " \n\t", "cd", "\r\n")
	mustSplit(t, "\f\fx\vy  z", "\f\f", "x\vy", "  ", "z")
	mustSplit(t, "\x00 \x00", "\x00", " ", "\x00")
	mustSplit(t, "\u00e4\u00a0b \u20ac\U0001F600\n", "\u00e4\u00a0b", " ", "\u20ac\U0001F600", "\n")
}

// P4.1, R5: a byte that is no right UTF-8 is a rune that is no Space, and is told as it was.
func TestSplitOfWrongText(t *testing.T) {
	mustSplit(t, "\xFF", "\xFF")
	mustSplit(t, "\xFF\xFE", "\xFF\xFE")
	mustSplit(t, "\xC0\x80 \x80", "\xC0\x80", " ", "\x80")
	mustSplit(t, "\xE2\x82 \xAC", "\xE2\x82", " ", "\xAC")
	mustSplit(t, " \xF0\x9F\n\x98a", " ", "\xF0\x9F", "\n", "\x98a")
	mustSplit(t, "\xED\xA0\x80\t", "\xED\xA0\x80", "\t")
	mustSplit(t, "a\ufffd\xFFb", "a\ufffd\xFFb")
}

// texts calls f with every text of up to n of these parts.
func texts(parts []string, n int, f func(string)) {
	row := []string{""}
	for range n + 1 {
		var longer []string
		for _, s := range row {
			f(s)
			for _, p := range parts {
				longer = append(longer, s+p)
			}
		}
		row = longer
	}
}

// P4.1: joined the runs are the text again; none is empty, each is of one kind, and neighbours are of two.
func TestSplitOfEveryText(t *testing.T) {
	texts([]string{"a", "Z", " ", "\n", "\u00a0", "\xE2", "\x80"}, 5, func(s string) {
		runs := Split(s)
		if strings.Join(runs, "") != s {
			t.Fatalf("Split(%q): %q", s, runs)
		}
		for i, run := range runs {
			if run == "" || Spaces(run) != in(rune(run[0]), spaces) || !Spaces(run) && strings.ContainsAny(run, spaces) {
				t.Fatalf("Split(%q): run %d of %q is of no kind", s, i, runs)
			}
			if i > 0 && Spaces(run) == Spaces(runs[i-1]) {
				t.Fatalf("Split(%q): %q has neighbours of one kind", s, runs)
			}
		}
	})
}

// P4.1
func TestSame(t *testing.T) {
	for _, c := range [][2]string{
		{"", ""}, {"a", "a"}, {"a", "A"}, {"aB", "Ab"}, {"TEMPLATE", "template"}, {"PUBLIC x", "public X"},
		{"\u00c4b", "\u00c4B"}, {"\xFFa", "\xFFA"}, {letters, strings.ToUpper(letters)}, {"\x00Z", "\x00z"},
	} {
		if !Same(c[0], c[1]) || !Same(c[1], c[0]) {
			t.Errorf("Same(%q, %q): false", c[0], c[1])
		}
	}
	for _, c := range [][2]string{
		{"", "a"}, {"", " "}, {"a", "b"}, {"a", "aa"}, {"ab", "ba"}, {"a", "a "}, {"a", "a\x00"},
		{"@", "`"}, {"[", "{"}, {"\x01", "!"}, {"\r", "-"}, {"0", "P"}, {"\n", "\r"},
		{"\u00c4", "\u00e4"}, {"K", "\u212a"}, {"k", "\u212a"}, {"s", "\u017f"}, {"i", "\u0130"}, {"\uff21", "\uff41"},
		{"\xFF", "\xFE"}, {"\xFF", "\ufffd"}, {"\xC1", "\xE1"}, {"\xFF\xFF", "\xFF"}, {"ss", "\u00df"},
	} {
		if Same(c[0], c[1]) || Same(c[1], c[0]) {
			t.Errorf("Same(%q, %q): true", c[0], c[1])
		}
	}
}

// P4.1: every two bytes: the same just if equal, or a letter's two forms.
func TestSameOfEveryTwoBytes(t *testing.T) {
	for a := range 256 {
		for b := range 256 {
			want := a == b || (a^b) == 0x20 && in(rune(a), letters) && in(rune(b), letters)
			if got := Same(string([]byte{byte(a)}), string([]byte{byte(b)})); got != want {
				t.Fatalf("Same(%#x, %#x): %v", a, b, got)
			}
		}
	}
}

// R2: lists of two answers are two, and texts that are answered are no piece of what was given.
func TestMemory(t *testing.T) {
	s := strings.Repeat("ab  ", 5)
	one, other := Split(s), Split(s)
	clear(one[:cap(one)])
	if other[0] != "ab" || other[1] != "  " || len(other) != 10 {
		t.Errorf("a list that is shared: %q", other)
	}
	from := uintptr(unsafe.Pointer(unsafe.StringData(s)))
	for _, text := range append(other, Lower(s)) {
		if at := uintptr(unsafe.Pointer(unsafe.StringData(text))); at >= from && at < from+uintptr(len(s)) {
			t.Errorf("%q is a piece of what was given", text)
		}
	}
}

// R1: long texts end, and in time.
func TestLong(t *testing.T) {
	n := 1 << 20
	if got := Lower(strings.Repeat("A\xFF", n)); got != strings.Repeat("a\xFF", n) {
		t.Errorf("Lower: %d bytes", len(got))
	}
	if blank := strings.Repeat(" \n", n); !Spaces(blank) || Spaces(blank+"x") || len(Split(blank)) != 1 {
		t.Error("a long run of Spaces")
	}
	if got := Split(strings.Repeat("a ", n)); len(got) != 2*n {
		t.Errorf("Split: %d runs", len(got))
	}
	if long := strings.Repeat("aB", n); !Same(long, strings.ToUpper(long)) || Same(long, long+"c") {
		t.Error("Same of long texts")
	}
}
