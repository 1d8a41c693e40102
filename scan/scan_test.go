package scan

import (
	"math"
	"strings"
	"testing"
)

const spaces = "\t\n\f\r "

// places are those of a text, and some that are none: below 0 up to the least, and behind its end up to the greatest.
func places(s string) []int {
	out := []int{math.MinInt, math.MinInt + 1, math.MinInt32, -1000, -len(s) - 1, -len(s), -2, -1}
	for at := range len(s) + 1 {
		out = append(out, at)
	}
	return append(out, len(s)+1, len(s)+2, 2*len(s)+1, len(s)+256, 1<<16+len(s), math.MaxInt32, 1<<32, 1<<32+1, math.MaxInt-len(s), math.MaxInt-1, math.MaxInt)
}

// plainPlace is the first sentence of the chapter.
func plainPlace(s string, at int) int {
	switch {
	case at < 0:
		return 0
	case at > len(s):
		return len(s)
	}
	return at
}

// lowered is written out, so that it hangs on no sum of the program's.
func lowered(s string) string {
	const capitals, letters = "ABCDEFGHIJKLMNOPQRSTUVWXYZ", "abcdefghijklmnopqrstuvwxyz"
	var b strings.Builder
	for i := range len(s) {
		if n := strings.IndexByte(capitals, s[i]); n >= 0 {
			b.WriteByte(letters[n])
		} else {
			b.WriteByte(s[i])
		}
	}
	return b.String()
}

func plainStarts(s string, at int, sub string) bool {
	return strings.HasPrefix(s[plainPlace(s, at):], sub)
}

func plainFold(s string, at int, sub string) bool {
	return strings.HasPrefix(lowered(s[plainPlace(s, at):]), lowered(sub))
}

func plainFind(s string, at int, sub string) int {
	for at = plainPlace(s, at); at < len(s); at++ {
		if strings.HasPrefix(s[at:], sub) {
			return at
		}
	}
	return len(s)
}

func plainUntil(s string, at int, set string) int {
	for at = plainPlace(s, at); at < len(s); at++ {
		if strings.IndexByte(set, s[at]) >= 0 {
			return at
		}
	}
	return len(s)
}

func plainSkip(s string, at int) int {
	for at = plainPlace(s, at); at < len(s); at++ {
		if strings.IndexByte(spaces, s[at]) < 0 {
			return at
		}
	}
	return len(s)
}

func mustStarts(t *testing.T, s string, at int, sub string, want bool) {
	t.Helper()
	if got := Starts(s, at, sub); got != want {
		t.Errorf("Starts(%q, %d, %q): %v", s, at, sub, got)
	}
}

func mustFold(t *testing.T, s string, at int, sub string, want bool) {
	t.Helper()
	if got := Fold(s, at, sub); got != want {
		t.Errorf("Fold(%q, %d, %q): %v", s, at, sub, got)
	}
}

func mustFind(t *testing.T, s string, at int, sub string, want int) {
	t.Helper()
	if got := Find(s, at, sub); got != want {
		t.Errorf("Find(%q, %d, %q): %d, want %d", s, at, sub, got, want)
	}
}

func mustUntil(t *testing.T, s string, at int, set string, want int) {
	t.Helper()
	if got := Until(s, at, set); got != want {
		t.Errorf("Until(%q, %d, %q): %d, want %d", s, at, set, got, want)
	}
}

func mustSkip(t *testing.T, s string, at, want int) {
	t.Helper()
	if got := Skip(s, at); got != want {
		t.Errorf("Skip(%q, %d): %d, want %d", s, at, got, want)
	}
}

func mustName(t *testing.T, s string, at, want int) {
	t.Helper()
	if got := Name(s, at); got != want {
		t.Errorf("Name(%q, %d): %d, want %d", s, at, got, want)
	}
}

func TestRunOfTheChapter(t *testing.T) {
	mustFold(t, "<!DocType", 2, "doctype", true)
}

func TestExamplesOfTheChapter(t *testing.T) {
	for _, s := range []string{"", " ", "   ", "\t\n\f\r "} {
		mustSkip(t, s, 0, len(s))
	}
	for _, s := range []string{"", "a", "abc", "a->", "--"} {
		mustFind(t, s, 0, "-->", len(s))
	}
}

// P9.1, P9.2: each place by hand, at a text of which each call can be told.
func TestPlaces(t *testing.T) {
	const s = "aB \tc/B" // 7 bytes
	for _, c := range []struct {
		at                      int
		starts, fold            bool // of aB, of Ab
		find, until, skip, name int  // of B; of c and blank
	}{
		{math.MinInt, true, true, 1, 2, 0, 2}, {-1 << 40, true, true, 1, 2, 0, 2}, {-7, true, true, 1, 2, 0, 2}, {-1, true, true, 1, 2, 0, 2},
		{0, true, true, 1, 2, 0, 2}, {1, false, false, 1, 2, 1, 2}, {2, false, false, 6, 2, 4, 2}, {3, false, false, 6, 4, 4, 3},
		{4, false, false, 6, 4, 4, 5}, {5, false, false, 6, 7, 5, 5}, {6, false, false, 6, 7, 6, 7},
		{7, false, false, 7, 7, 7, 7}, {8, false, false, 7, 7, 7, 7}, {1 << 40, false, false, 7, 7, 7, 7}, {math.MaxInt, false, false, 7, 7, 7, 7},
	} {
		mustStarts(t, s, c.at, "aB", c.starts)
		mustFold(t, s, c.at, "Ab", c.fold)
		mustFind(t, s, c.at, "B", c.find)
		mustUntil(t, s, c.at, "c ", c.until)
		mustSkip(t, s, c.at, c.skip)
		mustName(t, s, c.at, c.name)
	}
}

// P9.1, P9.2: the empty text has one place.
func TestEmptyText(t *testing.T) {
	for _, at := range places("") {
		mustStarts(t, "", at, "", true)
		mustStarts(t, "", at, "a", false)
		mustStarts(t, "", at, "\x00", false)
		mustFold(t, "", at, "", true)
		mustFold(t, "", at, "a", false)
		mustFind(t, "", at, "", 0)
		mustFind(t, "", at, "a", 0)
		mustUntil(t, "", at, "", 0)
		mustUntil(t, "", at, "a\x00", 0)
		mustSkip(t, "", at, 0)
		mustName(t, "", at, 0)
	}
}

// P9.1, P9.2: every byte as a text of its own, at every place.
func TestTextsOfOneByte(t *testing.T) {
	for c := range 256 {
		s := string([]byte{byte(c)})
		isSpace := strings.Contains(spaces, s)
		for _, at := range places(s) {
			in := at <= 0
			here := 1
			if in {
				here = 0
			}
			mustStarts(t, s, at, s, in)
			mustFold(t, s, at, s, in)
			mustFind(t, s, at, s, here)
			mustUntil(t, s, at, s, here)
			if isSpace {
				mustSkip(t, s, at, 1)
			} else {
				mustSkip(t, s, at, here)
			}
			if isSpace || s == "/" || s == ">" {
				mustName(t, s, at, here)
			} else {
				mustName(t, s, at, 1)
			}
		}
	}
}

// P9.1: how long sub is, held against what is left and against the whole text.
func TestLengthsOfSub(t *testing.T) {
	for _, call := range []func(string, int, string) bool{Starts, Fold} {
		for _, c := range []struct {
			s    string
			at   int
			sub  string
			want bool
		}{
			{"abc", 0, "", true}, {"abc", 2, "", true}, {"abc", 3, "", true}, {"abc", 9, "", true}, {"abc", -9, "", true},
			{"abc", 0, "abc", true}, {"abc", 1, "bc", true}, {"abc", 2, "c", true}, {"abc", -1, "abc", true}, {"abc", math.MinInt, "abc", true},
			{"abc", 0, "abcd", false}, {"abc", 1, "bcd", false}, {"abc", 2, "cd", false}, {"abc", 3, "d", false}, {"abc", 1, "abc", false},
			{"abc", 3, "a", false}, {"abc", 4, "a", false}, {"abc", math.MaxInt, "a", false}, {"abc", math.MaxInt, "abc", false},
			{"abc", 0, "abcdefgh", false}, {"abc", 2, "cdefgh", false}, {"abc", -3, "abcabc", false},
			{"abc", 0, "ab\x00", false}, {"abc", 1, "bc\x00", false}, {"ab\x00", 0, "ab", true}, {"ab", 0, "ab\x00", false},
			{"\x00\x00", 0, "\x00", true}, {"\x00\x00", 1, "\x00\x00", false}, {"\x00\x00", 1, "\x00", true}, {"\x00\x00", 2, "\x00", false},
		} {
			if got := call(c.s, c.at, c.sub); got != c.want {
				t.Errorf("(%q, %d, %q): %v", c.s, c.at, c.sub, got)
			}
		}
	}
}

// P9.1: a difference in the first, a middle and the last byte.
func TestSubsThatDiffer(t *testing.T) {
	const s = "xabcdey"
	for at := range 5 {
		other := []byte("abcde")
		for _, c := range []byte("\x00xz@[`{\x7F\x80\xFF") {
			other[at] = c
			mustStarts(t, s, 1, string(other), false)
			mustFold(t, s, 1, string(other), false)
			mustFind(t, s, 0, string(other), len(s))
		}
	}
	mustStarts(t, s, 1, "abcde", true)
	mustFold(t, s, 1, "abcde", true)
}

// P9.1: capitals on either side: Starts tells them apart, Fold does not.
func TestCapitals(t *testing.T) {
	for _, c := range [][2]string{
		{"a", "A"}, {"z", "Z"}, {"doctype", "DOCTYPE"}, {"DocType", "dOCtYPE"}, {"aB", "Ab"}, {"x1-A", "X1-a"},
		{"abcdefghijklmnopqrstuvwxyz", "ABCDEFGHIJKLMNOPQRSTUVWXYZ"}, {"\x00a\xFF", "\x00A\xFF"}, {"\u00c4A", "\u00c4a"},
	} {
		for _, pair := range [][2]string{{c[0], c[1]}, {c[1], c[0]}} {
			s := "<!" + pair[0] + ">"
			mustStarts(t, s, 2, pair[1], false)
			mustFold(t, s, 2, pair[1], true)
			mustStarts(t, s, 2, pair[0], true)
			mustFold(t, s, 2, pair[0], true)
			mustFind(t, s, 0, pair[1], len(s))
			mustFind(t, s, 0, pair[0], 2)
		}
	}
	mustUntil(t, "aBc", 0, "b", 3)
	mustUntil(t, "aBc", 0, "B", 1)
}

// P9.1: of two bytes, every pair: the same for Fold just if they are so lowered.
func TestFoldOfEveryTwoBytes(t *testing.T) {
	for a := range 256 {
		for b := range 256 {
			s, sub := string([]byte{byte(a)}), string([]byte{byte(b)})
			mustFold(t, "-"+s+"-", 1, sub, lowered(s) == lowered(sub))
			mustStarts(t, "-"+s+"-", 1, sub, a == b)
		}
	}
}

// P9.1: the signs beside the letters, and letters elsewhere, each told by itself.
func TestFoldOfOtherSigns(t *testing.T) {
	for _, c := range [][2]string{
		{"@", "`"}, {"[", "{"}, {"\\", "|"}, {"^", "~"}, {"_", "\x7F"}, {"\r", "-"}, {"\x00", " "}, {"0", "P"}, {"\x10", "0"},
		{"@", "A"}, {"`", "a"}, {"[", "Z"}, {"{", "z"}, {"@", "a"}, {"[", "z"},
		{"\u00c4", "\u00e4"}, {"\u0130", "i"}, {"\u0131", "I"}, {"\u212a", "k"}, {"\u212a", "K"}, {"\u017f", "s"}, {"\u017f", "S"},
		{"\u0410", "\u0430"}, {"\u0391", "\u03b1"}, {"\uff21", "\uff41"}, {"\U00010400", "\U00010428"}, {"\u00df", "ss"},
		{"\xC1", "\xE1"}, {"\xC1", "a"}, {"\xC1", "A"}, {"\xE1", "a"}, {"\xDA", "\xFA"},
	} {
		mustFold(t, c[0], 0, c[1], false)
		mustFold(t, c[1], 0, c[0], false)
		mustFold(t, "a"+c[0], 1, c[1], false)
		mustFold(t, "A"+c[1]+"b", 0, "a"+c[0]+"B", false)
	}
}

// P9.1: the empty sub stands at each place.
func TestFindOfNothing(t *testing.T) {
	for _, s := range []string{"", "a", "abc", "\x00\x00", "\xFF\u00e4"} {
		for _, at := range places(s) {
			mustFind(t, s, at, "", plainPlace(s, at))
			mustStarts(t, s, at, "", true)
			mustFold(t, s, at, "", true)
		}
	}
}

// P9.1
func TestFind(t *testing.T) {
	for _, c := range []struct {
		s    string
		at   int
		sub  string
		want int
	}{
		{"a-->b", 0, "-->", 1}, {"a-->b", 1, "-->", 1}, {"a-->b", 2, "-->", 5}, {"a-->", 0, "-->", 1}, {"-->", 0, "-->", 0}, {"-->", 1, "-->", 3},
		{"--->", 0, "-->", 1}, {"----->", 0, "-->", 3}, {"-- -->", 0, "-->", 3}, {"]]]]>", 0, "]]>", 2}, {"]] ]>", 0, "]]>", 5},
		{"a--", 0, "-->", 3}, {"a-", 0, "-->", 2}, {"a--", 1, "-->", 3}, {"abcab", 0, "abd", 5},
		{"abab", 0, "ab", 0}, {"abab", 1, "ab", 2}, {"abab", 2, "ab", 2}, {"abab", 3, "ab", 4}, {"abababab", 3, "abab", 4},
		{"aaaa", 0, "aa", 0}, {"aaaa", 1, "aa", 1}, {"aaaa", 2, "aa", 2}, {"aaaa", 3, "aa", 4}, {"ababab", 1, "aba", 2},
		{"aabaaab", 0, "aaab", 3}, {"abacabab", 0, "abab", 4}, {"aabaabaaa", 0, "aabaaa", 3}, {"abcabcabd", 0, "abcabd", 3},
		{"xyz", 0, "z", 2}, {"xyz", 2, "z", 2}, {"xyz", 3, "z", 3}, {"xyz", 4, "z", 3}, {"xyz", -4, "x", 0}, {"xyz", 1, "x", 3},
		{"xyz", 0, "xyzx", 3}, {"xyz", 0, "abc", 3}, {"xyz", math.MaxInt, "x", 3}, {"xyz", math.MinInt, "z", 2},
		{"a\x00b\x00", 0, "\x00", 1}, {"a\x00b\x00", 2, "\x00", 3}, {"a\x00b\x00", 0, "b\x00", 2}, {"a\x00", 0, "\x00\x00", 2},
		{"\xE2\x82\xAC\xAC", 0, "\xAC", 2}, {"\xE2\x82\xAC\xAC", 3, "\xAC", 3}, {"\u20ac", 0, "\x82", 1}, {"\xFF", 0, "\ufffd", 1}, {"\ufffd", 0, "\xFF", 3},
	} {
		mustFind(t, c.s, c.at, c.sub, c.want)
	}
}

// P9.1
func TestUntil(t *testing.T) {
	for _, c := range []struct {
		s    string
		at   int
		set  string
		want int
	}{
		{"abc", 0, "", 3}, {"abc", 3, "", 3}, {"abc", 9, "", 3}, {"abc", -1, "", 3}, {"\x00\x00", 0, "", 2},
		{"a&b<", 0, "<", 3}, {"a&b<", 0, "&", 1}, {"a&b<", 1, "&", 1}, {"a&b<", 2, "&", 4}, {"a&b<", 0, "<&", 1}, {"a&b<", 0, "&<", 1}, {"a&b<", 2, "<&", 3}, {"a&b<", 4, "<&", 4},
		{"a&b<", 0, "&&", 1}, {"a&b<", 0, "<<&&<", 1}, {"a&b<", 2, "a&", 4}, {"a&b<", 0, "xyz", 4}, {"a&b<", 0, "bx", 2},
		{"abc", 0, "ca", 0}, {"abc", 1, "ca", 2}, {"abc", -5, "c", 2}, {"abc", 5, "abc", 3}, {"abc", math.MaxInt, "abc", 3}, {"abc", math.MinInt, "a", 0},
		{"a\x00b", 0, "\x00", 1}, {"ab", 0, "\x00", 2}, {"\x00", 0, "a", 1},
		{"a\u00e4", 0, "\xA4", 2}, {"a\u00e4", 0, "\u00e5", 1}, {"a\u00e4", 0, "\xC3", 1}, {"a\u00e4", 2, "\xC3", 3}, {"\xFF\xFE", 0, "\xFE", 1}, {"\xFF\xFE", 0, "\xFF", 0}, {"\xFF", 0, "\ufffd", 1}, {"\x7F\x80", 0, "\x80", 1},
	} {
		mustUntil(t, c.s, c.at, c.set, c.want)
	}
}

// P9.1: every byte of a text of all of them, by a set of it and by a set of all others.
func TestUntilOfEveryByte(t *testing.T) {
	all := make([]byte, 256)
	for c := range all {
		all[c] = byte(c)
	}
	s := string(all)
	for c := range 256 {
		mustUntil(t, s, 0, s[c:c+1], c)
		mustUntil(t, s, c, s[c:c+1], c)
		mustUntil(t, s, c+1, s[c:c+1], 256)
		mustUntil(t, s, 0, s[c:], c)
		mustUntil(t, s, c, s, c)
		mustUntil(t, s, c, s[:c+1], c)
		mustUntil(t, s, c, s[:c], 256)
		mustUntil(t, s[c:c+1], 0, s[:c]+s[c+1:], 1)
	}
}

// P9.1: what others take for a Space is none.
func TestSkip(t *testing.T) {
	for i := range len(spaces) {
		one := spaces[i : i+1]
		mustSkip(t, one, 0, 1)
		mustSkip(t, one+"a", 0, 1)
		mustSkip(t, "a"+one+one+"b"+one, 1, 3)
		mustSkip(t, "a"+one+one+"b"+one, 4, 5)
		mustSkip(t, "a"+one, 0, 0)
	}
	mustSkip(t, "\t\n\f\r a ", 0, 5)
	mustSkip(t, " \r\n\r\n\t\f  <", 3, 9)
	mustSkip(t, "  a", -3, 2)
	mustSkip(t, "  a", 1, 2)
	mustSkip(t, "  a", 2, 2)
	mustSkip(t, "  a", 3, 3)
	mustSkip(t, "abc", 1, 1)
	for _, s := range []string{"\v", "\x00", "\b", "\x0E", "\x1C", "\x1F", "!", "\x7F", "\x85", "\xA0", "\u0085", "\u00a0", "\u1680", "\u2003", "\u2028", "\u202f", "\u3000", "\ufeff", "\xFF", "\x89", "\x8A", "\x8D"} {
		mustSkip(t, s, 0, 0)
		mustSkip(t, s+"  ", 0, 0)
		mustSkip(t, " \n"+s+"  ", 0, 2)
		mustSkip(t, s+" ", len(s), len(s)+1)
	}
}

// P9.2: each sign that ends a name, and those that stand right beside one.
func TestName(t *testing.T) {
	for _, end := range []string{"\t", "\n", "\f", "\r", " ", "/", ">"} {
		mustName(t, end, 0, 0)
		mustName(t, end+"a", 0, 0)
		mustName(t, "div"+end, 0, 3)
		mustName(t, "div"+end+"x"+end, 0, 3)
		mustName(t, "div"+end+"x"+end, 3, 3)
		mustName(t, "div"+end+"x"+end, 4, 5)
		mustName(t, "div"+end+"xyz", 4, 7)
		mustName(t, "<div"+end+"a>", 1, 4)
		mustName(t, "\x00\xFF\u00e4"+end, 0, 4)
	}
	for _, c := range []string{"\x08", "\v", "\x0E", "\x1F", "!", ".", "0", "=", "?", "<", "\"", "'", "&", "\x00", "\x7F", "\x89", "\xA0", "\xAF", "\xBE", "\u00a0", "\u0085", "\u2003", "\uff0f", "\uff1e"} {
		mustName(t, c, 0, len(c))
		mustName(t, "a"+c+"b", 0, 2+len(c))
		mustName(t, "a"+c+">", 0, 1+len(c))
	}
	mustName(t, "abc", 0, 3)
	mustName(t, "abc", -1, 3)
	mustName(t, "abc", math.MaxInt, 3)
	mustName(t, "a b", math.MinInt, 1)
	mustName(t, "a b", 2, 3)
}

// texts tells every text of up to n of these parts.
func texts(parts []string, n int) []string {
	out, row := []string{""}, []string{""}
	for range n {
		var longer []string
		for _, s := range row {
			for _, p := range parts {
				longer = append(longer, s+p)
			}
		}
		row = longer
		out = append(out, row...)
	}
	return out
}

// P9.1: every short text against every short sub, at every place.
func TestAgainstPlainCalls(t *testing.T) {
	subs := texts([]string{"a", "A", "\xE2"}, 3)
	for _, s := range texts([]string{"a", "A", " ", "\xE2"}, 4) {
		for _, at := range places(s) {
			for _, sub := range subs {
				mustStarts(t, s, at, sub, plainStarts(s, at, sub))
				mustFold(t, s, at, sub, plainFold(s, at, sub))
				mustFind(t, s, at, sub, plainFind(s, at, sub))
				mustUntil(t, s, at, sub, plainUntil(s, at, sub))
			}
		}
		if t.Failed() {
			return
		}
	}
}

// P9.1: subs that overlap themselves in every way, in texts that are longer.
func TestFindAgainstPlainFind(t *testing.T) {
	subs := texts([]string{"a", "b"}, 6)
	for _, s := range texts([]string{"a", "b"}, 10) {
		for _, sub := range subs {
			mustFind(t, s, 0, sub, plainFind(s, 0, sub))
			mustFind(t, s, 3, sub, plainFind(s, 3, sub))
		}
		if t.Failed() {
			return
		}
	}
}

// P9.1, P9.2: every short text of the bytes that Skip and Name tell apart, at every place.
func TestSkipAndNameAgainstPlainCalls(t *testing.T) {
	for _, s := range texts([]string{"\t", "\n", "\f", "\r", " ", "/", ">", "a", "\v", "\x00", "\xA0"}, 4) {
		for _, at := range places(s) {
			mustSkip(t, s, at, plainSkip(s, at))
			mustName(t, s, at, plainUntil(s, at, spaces+"/>"))
		}
		if t.Failed() {
			return
		}
	}
}

// P9.1, R1: texts that are long, and subs that nearly stand at every place of them.
func TestLongTexts(t *testing.T) {
	const n = 1 << 21
	long := strings.Repeat("a", n)
	mustStarts(t, long, n/2, long[n/2:], true)
	mustStarts(t, long, n/2+1, long[n/2:], false)
	mustFold(t, long, 0, strings.ToUpper(long), true)
	if got := Find(long, 0, long[:n/2]+"b"); got != n {
		t.Errorf("Find of a long sub that is nowhere: %d", got)
	}
	if got := Find(long, 7, "b"+long[:n/2]); got != n {
		t.Errorf("Find of a long sub with another beginning: %d", got)
	}
	if got := Find(long+"b", 0, long[:n/2]+"b"); got != n-n/2 {
		t.Errorf("Find of a long sub at the end: %d", got)
	}
	if got := Until(long, 3, strings.Repeat("b", n)); got != n {
		t.Errorf("Until of a long set: %d", got)
	}
	if got := Skip(strings.Repeat(" ", n)+"a", 0); got != n {
		t.Errorf("Skip of a long text: %d", got)
	}
	if got := Name(long+">", 0); got != n {
		t.Errorf("Name of a long text: %d", got)
	}
}

// R2: texts that are made of one piece of memory, so that bytes stand right behind each: they are not read.
func TestBytesBehindTheTextAreNotRead(t *testing.T) {
	whole := "ab>ab --"
	mustFind(t, whole[:2], 0, "b>", 2)
	mustStarts(t, whole[:2], 1, whole[1:3], false)
	mustStarts(t, whole[:2], 1, whole[1:2], true)
	mustFold(t, whole[:2], 1, "B>", false)
	mustUntil(t, whole[:2], 0, whole[2:3], 2)
	mustUntil(t, whole[:3], 0, whole[2:2], 3)
	mustSkip(t, whole[3:5], 2, 2)
	mustSkip(t, whole[5:6], 0, 1)
	mustName(t, whole[:2], 0, 2)
}
