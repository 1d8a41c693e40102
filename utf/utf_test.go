package utf

import (
	"bytes"
	"math"
	"slices"
	"strings"
	"testing"
	"unicode/utf8"
)

const bad = '\uFFFD'

func mustDecode(t *testing.T, b string, want ...rune) {
	t.Helper()
	if got := Decode([]byte(b)); !slices.Equal(got, want) {
		t.Errorf("Decode(% X): %U, want %U", b, got, want)
	}
}

func mustPrepare(t *testing.T, b, want string) {
	t.Helper()
	if got := Prepare([]byte(b)); got != want {
		t.Errorf("Prepare(%q): %q, want %q", b, got, want)
	}
}

func TestRunOfTheChapter(t *testing.T) {
	mustDecode(t, "\xF0\x9F\x41", bad, 'A')
}

func TestExamplesOfTheChapter(t *testing.T) {
	mustDecode(t, "\xC0\x80", bad, bad)
	mustPrepare(t, "\r\r\n", "\n\n")
}

// P3.1: the rows of table 3-7, each at its least and its greatest.
func TestDecodeRightSequences(t *testing.T) {
	mustDecode(t, "")
	mustDecode(t, "\x00\x01A\x7F", 0, 1, 'A', 0x7F)
	mustDecode(t, "\r\n\r", '\r', '\n', '\r')
	mustDecode(t, "\xC2\x80\xDF\xBF", 0x80, 0x7FF)
	mustDecode(t, "\xE0\xA0\x80\xE0\xBF\xBF", 0x800, 0xFFF)
	mustDecode(t, "\xE1\x80\x80\xEC\xBF\xBF", 0x1000, 0xCFFF)
	mustDecode(t, "\xED\x80\x80\xED\x9F\xBF", 0xD000, 0xD7FF)
	mustDecode(t, "\xEE\x80\x80\xEF\xBF\xBF", 0xE000, 0xFFFF)
	mustDecode(t, "\xF0\x90\x80\x80\xF0\xBF\xBF\xBF", 0x10000, 0x3FFFF)
	mustDecode(t, "\xF1\x80\x80\x80\xF3\xBF\xBF\xBF", 0x40000, 0xFFFFF)
	mustDecode(t, "\xF4\x80\x80\x80\xF4\x8F\xBF\xBF", 0x100000, 0x10FFFF)
	mustDecode(t, "\xEF\xBF\xBD", bad)
	mustDecode(t, "\xEF\xBB\xBFa", 0xFEFF, 'a')
}

// P3.1: the second byte just past its bounds ends the subpart behind the lead byte.
func TestDecodeSecondByteOutOfBounds(t *testing.T) {
	mustDecode(t, "\xC2\x7F", bad, 0x7F)
	mustDecode(t, "\xDF\xC0", bad, bad)
	mustDecode(t, "\xE0\x9F\xBF", bad, bad, bad)
	mustDecode(t, "\xE0\xC0\x80", bad, bad, bad)
	mustDecode(t, "\xE1\x7F\x80", bad, 0x7F, bad)
	mustDecode(t, "\xEC\xC0\x80", bad, bad, bad)
	mustDecode(t, "\xED\xA0\x80", bad, bad, bad)
	mustDecode(t, "\xED\xBF\xBF", bad, bad, bad)
	mustDecode(t, "\xEE\x7F\x80", bad, 0x7F, bad)
	mustDecode(t, "\xEF\xC0\x80", bad, bad, bad)
	mustDecode(t, "\xF0\x8F\xBF\xBF", bad, bad, bad, bad)
	mustDecode(t, "\xF0\xC0\x80\x80", bad, bad, bad, bad)
	mustDecode(t, "\xF1\x7F\x80\x80", bad, 0x7F, bad, bad)
	mustDecode(t, "\xF3\xC0\x80\x80", bad, bad, bad, bad)
	mustDecode(t, "\xF4\x90\x80\x80", bad, bad, bad, bad)
	mustDecode(t, "\xF4\x7F\x80\x80", bad, 0x7F, bad, bad)
}

// P3.1: one for a whole pair of surrogates would be as wrong as one for each half.
func TestDecodeSurrogatesAndTooGreat(t *testing.T) {
	mustDecode(t, "\xED\xA0\xBD\xED\xB8\x80", bad, bad, bad, bad, bad, bad)
	mustDecode(t, "\xF5\x80\x80\x80", bad, bad, bad, bad)
	mustDecode(t, "\xF8\x88\x80\x80\x80", bad, bad, bad, bad, bad)
	mustDecode(t, "\xC1\xBF", bad, bad)
	mustDecode(t, "\xF0\x80\x80\x80", bad, bad, bad, bad)
}

// P3.1: a sequence that is cut off is one subpart, whatever stands behind it.
func TestDecodeCutOff(t *testing.T) {
	for _, whole := range []string{"\xC3\xA9", "\xE0\xA0\x80", "\xE2\x82\xAC", "\xED\x9F\xBF", "\xF0\x90\x80\x80", "\xF1\x80\x80\x80", "\xF4\x8F\xBF\xBF"} {
		for n := 1; n < len(whole); n++ {
			mustDecode(t, whole[:n], bad)
			mustDecode(t, whole[:n]+"A", bad, 'A')
			mustDecode(t, "A"+whole[:n]+"\xC2\xA9", 'A', bad, 0xA9)
			mustDecode(t, whole[:n]+whole[:n], bad, bad)
			mustDecode(t, whole[:n]+"\xFF", bad, bad)
		}
	}
	mustDecode(t, "\xF1\x80\x80\xE1\x80\xC2b", bad, bad, bad, 'b')
	mustDecode(t, "\xE2\x82\xAC\x80", 0x20AC, bad)
}

// P3.1: each byte that begins nothing stands for itself, alone and in a row.
func TestDecodeBytesThatBeginNothing(t *testing.T) {
	for c := 0x80; c <= 0xFF; c++ {
		if c >= 0xC2 && c <= 0xF4 {
			continue
		}
		s := string([]byte{byte(c)})
		mustDecode(t, s, bad)
		mustDecode(t, "a"+s+s+"b", 'a', bad, bad, 'b')
		mustDecode(t, s+"\x80", bad, bad)
	}
}

// subparts holds each proper beginning of a right sequence, taken from Go's own encoding and not from the table.
func subparts() map[string]bool {
	all := map[string]bool{}
	for r := rune(0); r <= utf8.MaxRune; r++ {
		if s := string(r); utf8.ValidRune(r) {
			for n := 1; n < len(s); n++ {
				all[s[:n]] = true
			}
		}
	}
	return all
}

// plain decodes by the promise's words: a right sequence, else the longest beginning of one, else one byte.
func plain(b []byte, parts map[string]bool) []rune {
	var l []rune
	for len(b) > 0 {
		r, n := utf8.DecodeRune(b)
		if r == utf8.RuneError && n == 1 {
			for n < len(b) && parts[string(b[:n+1])] {
				n++
			}
		}
		l = append(l, r)
		b = b[n:]
	}
	return l
}

// rows calls f with every row of n of these bytes.
func rows(from []byte, n int, f func([]byte)) {
	b := make([]byte, n)
	at := make([]int, n)
	for {
		for i, k := range at {
			b[i] = from[k]
		}
		f(b)
		i := 0
		for ; i < n && at[i] == len(from)-1; i++ {
			at[i] = 0
		}
		if i == n {
			return
		}
		at[i]++
	}
}

// P3.1, against the plain reading: every row of two bytes, and every row of up to four at the table's bounds.
func TestDecodeAsThePromiseSays(t *testing.T) {
	parts := subparts()
	check := func(b []byte) {
		if got, want := Decode(b), plain(b, parts); !slices.Equal(got, want) {
			t.Fatalf("Decode(% X): %U, want %U", b, got, want)
		}
	}
	var every []byte
	for c := range 256 {
		every = append(every, byte(c))
	}
	for n := range 3 {
		rows(every, n, check)
	}
	bounds := []byte("A\x7F\x80\x8F\x90\x9F\xA0\xBF\xC0\xC1\xC2\xDF\xE0\xE1\xEC\xED\xEE\xEF\xF0\xF1\xF3\xF4\xF5\xFF")
	rows(bounds, 3, check)
	rows(bounds, 4, check)
	rows([]byte("A\x80\x90\xBF\xC2\xE0\xED\xF0\xF4"), 6, check)
}

// P3.1
func TestEncode(t *testing.T) {
	for _, c := range []struct {
		l    []rune
		want string
	}{
		{nil, ""},
		{[]rune{}, ""},
		{[]rune{0, 'a', 0x7F}, "\x00a\x7F"},
		{[]rune{0x80, 0x7FF}, "\xC2\x80\xDF\xBF"},
		{[]rune{0x800, 0xD7FF, 0xE000, 0xFFFF}, "\xE0\xA0\x80\xED\x9F\xBF\xEE\x80\x80\xEF\xBF\xBF"},
		{[]rune{0x10000, 0x10FFFF}, "\xF0\x90\x80\x80\xF4\x8F\xBF\xBF"},
		{[]rune{0xFEFF, bad, '\r', '\n'}, "\xEF\xBB\xBF\xEF\xBF\xBD\r\n"},
	} {
		if got := Encode(c.l); got != c.want {
			t.Errorf("Encode(%U): % X, want % X", c.l, got, c.want)
		}
	}
}

// P3.1: below 0, surrogates, above the greatest: each one U+FFFD, and those beside it as they are.
func TestEncodeNumbersThatAreNoRunes(t *testing.T) {
	for _, r := range []rune{-1, -2, -0xD800, math.MinInt32, 0xD800, 0xDBFF, 0xDC00, 0xDFFF, 0x110000, 0x1FFFFF, math.MaxInt32} {
		if got := Encode([]rune{'a', r, r, 0x20AC}); got != "a\xEF\xBF\xBD\xEF\xBF\xBD\xE2\x82\xAC" {
			t.Errorf("Encode with %#x: % X", r, got)
		}
	}
	for r := rune(0xD800); r <= 0xDFFF; r++ {
		if got := Encode([]rune{r}); got != "\xEF\xBF\xBD" {
			t.Fatalf("Encode(%#x): % X", r, got)
		}
	}
}

// P3.2: one mark is taken away, at the beginning, and a whole one.
func TestPrepareMark(t *testing.T) {
	mustPrepare(t, "", "")
	mustPrepare(t, "\xEF\xBB\xBF", "")
	mustPrepare(t, "\xEF\xBB\xBFx", "x")
	mustPrepare(t, "\xEF\xBB\xBF\xEF\xBB\xBFx", "\uFEFFx")
	mustPrepare(t, "x\xEF\xBB\xBF", "x\uFEFF")
	mustPrepare(t, "\n\xEF\xBB\xBF", "\n\uFEFF")
	mustPrepare(t, "\xEF\xBB", "\uFFFD")
	mustPrepare(t, "\xEF\xBBx", "\uFFFDx")
	mustPrepare(t, "\xEF", "\uFFFD")
	mustPrepare(t, "\xFE\xFFx", "\uFFFD\uFFFDx")
	mustPrepare(t, "\xEF\xBB\xBF\r\n\x00", "\n\uFFFD")
	mustPrepare(t, "\xEF\xBB\xBF\xBF", "\uFFFD")
}

// P3.2
func TestPrepareEndsOfLines(t *testing.T) {
	for b, want := range map[string]string{
		"\n": "\n", "\r": "\n", "\r\n": "\n", "\n\r": "\n\n", "\r\r": "\n\n", "\n\n": "\n\n",
		"\r\n\r\n": "\n\n", "\r\r\n\n": "\n\n\n", "\n\r\n\r": "\n\n\n", "\r\n\n": "\n\n", "\r\r\r\n": "\n\n\n",
		"a\rb\nc\r\nd": "a\nb\nc\nd", "a\r\n": "a\n", "a\r": "a\n", "\ra": "\na",
		"\r\x00\n": "\n\uFFFD\n", "\r\xFF\n": "\n\uFFFD\n", "\xE2\x82\r\n": "\uFFFD\n", "\r\uFEFF\n": "\n\uFEFF\n",
		"\t\f\v\u0085\u2028": "\t\f\v\u0085\u2028",
	} {
		mustPrepare(t, b, want)
	}
}

// P3.2: every order of CR, LF and another, against two plain replacements.
func TestPrepareEndsOfLinesInEveryOrder(t *testing.T) {
	for n := range 9 {
		rows([]byte("\r\na"), n, func(b []byte) {
			mustPrepare(t, string(b), strings.ReplaceAll(strings.ReplaceAll(string(b), "\r\n", "\n"), "\r", "\n"))
		})
	}
}

// P3.2
func TestPrepareNull(t *testing.T) {
	mustPrepare(t, "\x00", "\uFFFD")
	mustPrepare(t, "\x00\x00", "\uFFFD\uFFFD")
	mustPrepare(t, "a\x00b", "a\uFFFDb")
	mustPrepare(t, "\x00\xEF\xBB\xBF", "\uFFFD\uFEFF")
	mustPrepare(t, "\x01\x1F\x7F", "\x01\x1F\x7F")
	mustPrepare(t, "\xC0\x80", "\uFFFD\uFFFD")
	mustPrepare(t, "\xE2\x00", "\uFFFD\uFFFD")
}

// P3.3: every rune there is, alone and all in one text.
func TestRightTextIsEncodedAsItWas(t *testing.T) {
	var all []byte
	for r := rune(0); r <= utf8.MaxRune; r++ {
		if !utf8.ValidRune(r) {
			continue
		}
		s := string(r)
		if l := Decode([]byte(s)); len(l) != 1 || l[0] != r || Encode(l) != s {
			t.Fatalf("%U: Decode %U, Encode % X", r, l, Encode(l))
		}
		all = append(all, s...)
	}
	if Encode(Decode(all)) != string(all) {
		t.Error("all runes in one text do not come back")
	}
}

// P3.3: rows of every sort: right UTF-8, and the same prepared again but for one mark at its beginning.
func TestPreparedAgainIsTheSame(t *testing.T) {
	check := func(b []byte) {
		s := Prepare(b)
		if !utf8.ValidString(s) || strings.ContainsAny(s, "\r\x00") {
			t.Fatalf("Prepare(% X): %q", b, s)
		}
		if again := Prepare([]byte(s)); again != strings.TrimPrefix(s, "\uFEFF") {
			t.Fatalf("Prepare(% X): %q, then %q", b, s, again)
		}
		if utf8.Valid(b) && Encode(Decode(b)) != string(b) {
			t.Fatalf("% X: decoded and encoded: % X", b, Encode(Decode(b)))
		}
	}
	for n := range 6 {
		rows([]byte("a\r\n\x00\x80\xBB\xBF\xC3\xED\xEF\xF0"), n, check)
	}
	for n := range 5 {
		check([]byte(strings.Repeat("\xEF\xBB\xBF", n) + "x"))
	}
}

// R2: what is handed in stays as it is, its spare room unread and unwritten; what is answered is the caller's own.
func TestMemory(t *testing.T) {
	room := []byte("\xEF\xBB\xBFa\r\n\x00\xE2\x82\xAC")
	before := bytes.Clone(room)
	if got := Prepare(room[:5]); got != "a\n" {
		t.Errorf("CR with LF in the spare room: %q", got)
	}
	if got := Prepare(room[:9]); got != "a\n\uFFFD\uFFFD" {
		t.Errorf("a sequence that is whole in the spare room alone: %q", got)
	}
	if got := Prepare(room[:2]); got != "\uFFFD" {
		t.Errorf("a mark that is whole in the spare room alone: %q", got)
	}
	l := Decode(room[3:9])
	if want := []rune{'a', '\r', '\n', 0, bad}; !slices.Equal(l, want) {
		t.Errorf("Decode: %U, want %U", l, want)
	}
	other := Decode(room[3:9])
	clear(l[:cap(l)])
	if other[0] != 'a' || !bytes.Equal(room, before) {
		t.Error("what was answered is shared, or what was given is changed")
	}
	runes := []rune{'a', -1, 'b', 'c'}
	if got := Encode(runes[:2:4]); got != "a\uFFFD" || !slices.Equal(runes, []rune{'a', -1, 'b', 'c'}) {
		t.Errorf("Encode: %q, and left %U", got, runes)
	}
}

// R4
func TestNilIsEmpty(t *testing.T) {
	if len(Decode(nil)) != 0 || len(Decode([]byte{})) != 0 || Encode(nil) != "" || Prepare(nil) != "" || Prepare([]byte{}) != "" {
		t.Error("nil or empty is not nothing")
	}
}

// R1: long texts end, and in time.
func TestLong(t *testing.T) {
	n := 1 << 20
	for _, c := range []struct{ b, want string }{
		{"\xF0\x9F\x98", "\uFFFD"}, {"\xFF", "\uFFFD"}, {"\r\n", "\n"}, {"\U0001F600", "\U0001F600"},
	} {
		if got := Prepare([]byte(strings.Repeat(c.b, n))); got != strings.Repeat(c.want, n) {
			t.Errorf("%d times % X: %d bytes", n, c.b, len(got))
		}
	}
}
