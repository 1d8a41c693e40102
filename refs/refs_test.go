package refs

import (
	"math"
	"slices"
	"strings"
	"testing"
	"unicode/utf8"
)

// chapter is the chapter's list of names, in its order; stands is what it says behind it, each as often as it is counted there.
const chapter = "AMP AMP; amp amp; apos; cent; COPY COPY; copy copy; deg deg; eacute eacute; GT GT; gt gt; hellip; laquo laquo; LT LT; lt lt; mdash; nbsp nbsp; ndash; not not; notin; NotEqualTilde; ouml ouml; QUOT QUOT; quot quot; raquo raquo; reg reg; szlig szlig; times times; uuml uuml; yen yen;"

var stands = []string{
	"&", "&", "&", "&", "'", "\xC2\xA2", "\xC2\xA9", "\xC2\xA9", "\xC2\xA9", "\xC2\xA9", "\xC2\xB0", "\xC2\xB0", "\xC3\xA9", "\xC3\xA9",
	">", ">", ">", ">", "\xE2\x80\xA6", "\xC2\xAB", "\xC2\xAB", "<", "<", "<", "<", "\xE2\x80\x94", "\xC2\xA0", "\xC2\xA0", "\xE2\x80\x93",
	"\xC2\xAC", "\xC2\xAC", "\xE2\x88\x89", "\xE2\x89\x82\xCC\xB8", "\xC3\xB6", "\xC3\xB6", "\"", "\"", "\"", "\"",
	"\xC2\xBB", "\xC2\xBB", "\xC2\xAE", "\xC2\xAE", "\xC3\x9F", "\xC3\x9F", "\xC3\x97", "\xC3\x97", "\xC3\xBC", "\xC3\xBC", "\xC2\xA5", "\xC2\xA5",
}

// plain looks for the longest name by the promise's words, in no order of the names.
func plain(s string) (string, int) {
	text, size := "", 0
	for i, name := range strings.Fields(chapter) {
		if strings.HasPrefix(s, name) && len(name) > size {
			text, size = stands[i], len(name)
		}
	}
	return text, size
}

func mustNamed(t *testing.T, s, want string, size int) {
	t.Helper()
	if text, n := Named(s); text != want || n != size {
		t.Errorf("Named(%q): %q, %d, want %q, %d", s, text, n, want, size)
	}
}

func mustNone(t *testing.T, s string) {
	t.Helper()
	mustNamed(t, s, "", 0)
}

func mustNumber(t *testing.T, n int, want string) {
	t.Helper()
	if got := Number(n); got != want {
		t.Errorf("Number(%#x): %q, want %q", n, got, want)
	}
}

func TestRunOfTheChapter(t *testing.T) {
	mustNamed(t, "notit;", "\u00AC", 3)
	mustNamed(t, "notin;", "\u2209", 6)
}

func TestExamplesOfTheChapter(t *testing.T) {
	mustNamed(t, "ampersand", "&", 3)
	mustNone(t, "cent")
}

// P5.1: rising as texts, each name of the chapter once, and no other.
func TestAll(t *testing.T) {
	want := strings.Fields(chapter)
	if len(want) != 51 || len(stands) != 51 {
		t.Fatalf("the chapter's lists: %d, %d", len(want), len(stands))
	}
	slices.Sort(want)
	all := All()
	if !slices.Equal(all, want) {
		t.Errorf("All: %q, want %q", all, want)
	}
	for i := 1; i < len(all); i++ {
		if all[i-1] >= all[i] {
			t.Errorf("%q ahead of %q", all[i-1], all[i])
		}
	}
	if all[0] != "AMP" || all[8] != "NotEqualTilde;" || all[len(all)-1] != "yen;" {
		t.Errorf("not by their bytes: %q", all)
	}
}

// P5.1, R2: what is done to one answer, its spare room included, is not seen in another one, nor by Named.
func TestAllIsNewEachTime(t *testing.T) {
	one, other := All(), All()
	clear(one[:cap(one)])
	_ = append(one[:3], "zz")
	want := strings.Fields(chapter)
	slices.Sort(want)
	if !slices.Equal(other, want) || !slices.Equal(All(), want) {
		t.Errorf("a list that is shared: %q", other)
	}
	mustNamed(t, "amp", "&", 3)
}

// P5.1: each name by itself stands for what the chapter says.
func TestNamedOfEachName(t *testing.T) {
	for i, name := range strings.Fields(chapter) {
		mustNamed(t, name, stands[i], len(name))
	}
}

// P5.1: whatever stands behind a name, it is found, unless a longer one is.
func TestNamedWithThingsBehind(t *testing.T) {
	behind := []string{"a", "z", "A", "Z", "0", "9", "=", " ", "\n", "&", "<", ":", "\x00", "\u00e9", "\ufffd", "\x80", "\xFF", "\xC3", "zz", "i", "in", "1;"}
	for i, name := range strings.Fields(chapter) {
		for _, more := range behind {
			mustNamed(t, name+more, stands[i], len(name))
		}
		size := len(name)
		// All names without a semicolon are names with one, too.
		if !strings.HasSuffix(name, ";") {
			size++
		}
		mustNamed(t, name+";", stands[i], size)
		mustNamed(t, name+";;", stands[i], size)
		mustNamed(t, name+name, stands[i], len(name))
	}
}

// P5.1: cut off at each place, what is left is a name or begins with one, or is none.
func TestNamedOfNamesCutOff(t *testing.T) {
	for _, name := range strings.Fields(chapter) {
		for n := range len(name) {
			for _, more := range []string{"", "-", "~", "\xFF"} {
				want, size := plain(name[:n] + more)
				mustNamed(t, name[:n]+more, want, size)
			}
		}
	}
	for _, s := range []string{"a", "am", "apo", "apos", "cen", "cent", "hellip", "mdash", "ndash", "NotEqualTilde", "NotEqual", "Not", "n", "no", "l", "laqu", "q", "quo", "ye", ";"} {
		mustNone(t, s)
	}
	mustNamed(t, "notin", "\u00AC", 3)
	mustNamed(t, "noti", "\u00AC", 3)
}

// P5.1: names that other names begin with.
func TestNamedOfTheLongest(t *testing.T) {
	mustNamed(t, "not", "\u00AC", 3)
	mustNamed(t, "not;", "\u00AC", 4)
	mustNamed(t, "not;in;", "\u00AC", 4)
	mustNamed(t, "notin;not;", "\u2209", 6)
	mustNamed(t, "notin:", "\u00AC", 3)
	mustNamed(t, "notIn;", "\u00AC", 3)
	mustNamed(t, "notinx;", "\u00AC", 3)
	mustNamed(t, "NotEqualTilde;", "\u2242\u0338", 14)
	mustNamed(t, "amp;amp;", "&", 4)
	mustNamed(t, "lt", "<", 2)
	mustNamed(t, "lt;", "<", 3)
	mustNamed(t, "ltimes;", "<", 2)
	mustNamed(t, "gtquot;", ">", 2)
	mustNamed(t, "copysr;", "\u00A9", 4)
	mustNamed(t, "centlt;", "", 0)
}

// P5.1: capitals are told apart: names in other ones are names just if the chapter has them so.
func TestNamedInOtherCapitals(t *testing.T) {
	for _, s := range []string{
		"Amp;", "aMP;", "AMp", "APOS;", "Apos;", "CENT;", "Copy;", "cOPY", "DEG;", "Deg", "EACUTE;", "Eacute;", "Gt;", "gT", "HELLIP;",
		"LAQUO", "Laquo;", "Lt;", "lT", "MDASH;", "NBSP;", "Nbsp", "NDASH;", "NOT;", "Not;", "Notin;", "NOTIN;", "NOTEQUALTILDE;",
		"NotEqualtilde;", "OUML;", "Ouml;", "Quot;", "qUOT", "RAQUO;", "REG;", "Reg", "SZLIG;", "TIMES;", "Times", "UUML;", "Uuml;", "YEN;", "Yen",
	} {
		mustNone(t, s)
	}
	for _, name := range strings.Fields(chapter) {
		for i := range name {
			s := name[:i] + string(name[i]^0x20) + name[i+1:]
			want, size := plain(s)
			mustNamed(t, s, want, size)
		}
	}
	mustNamed(t, "notEqualTilde;", "\u00AC", 3)
}

// P5.1: texts that begin with no name, names further on in them or not.
func TestNamedOfNone(t *testing.T) {
	for _, s := range []string{
		"", " ", ";", "&", "&amp;", " amp;", "xamp;", "\namp", "\x00amp;", "#65;", "0", "z", "zzzz", "~", "A", "AM", "alpha;", "bull;", "euro;",
		"auml;", "frac12;", "Yen;", "zamp", "\x7Famp;", "\u00e9", "\ufeffamp;", "\uff41mp;", "yem", "yeo;",
	} {
		mustNone(t, s)
	}
}

// P5.1, R1, R5: texts that are no right UTF-8.
func TestNamedOfWrongText(t *testing.T) {
	for _, s := range []string{"\xFF", "\x80", "\xC3", "\xE2\x88", "\xFFamp;", "\x80lt", "a\xFFmp;", "am\xC3p", "\xC1\xA1mp;", "hellip\xFF;", "cent\xBB", "apos\x80"} {
		mustNone(t, s)
	}
	mustNamed(t, "amp\xFF", "&", 3)
	mustNamed(t, "amp\xC0\xBB", "&", 3)
	mustNamed(t, "amp;\xFF", "&", 4)
	mustNamed(t, "notin\xFF;", "\u00AC", 3)
	mustNamed(t, "yen\x80\x80", "\u00A5", 3)
}

// P5.1, against the plain reading: every text of up to three bytes of the names, and beside them.
func TestNamedAsThePromiseSays(t *testing.T) {
	from := []byte("AMPCOYGTLNQUacdeghilmnoprqstuyz;\x00 @~\x80\xFF")
	for _, a := range from {
		for _, b := range from {
			for _, c := range from {
				s := string([]byte{a, b, c})
				for _, more := range []string{"", ";", "p;", "t;", "in;"} {
					want, size := plain(s + more)
					if text, n := Named(s + more); text != want || n != size {
						t.Fatalf("Named(%q): %q, %d, want %q, %d", s+more, text, n, want, size)
					}
				}
			}
		}
	}
}

// P5.2: 80 to 9F, written out.
func TestNumberFrom80To9F(t *testing.T) {
	for n, want := range map[int]rune{
		0x80: 0x20AC, 0x81: 0x81, 0x82: 0x201A, 0x83: 0x0192, 0x84: 0x201E, 0x85: 0x2026, 0x86: 0x2020, 0x87: 0x2021,
		0x88: 0x02C6, 0x89: 0x2030, 0x8A: 0x0160, 0x8B: 0x2039, 0x8C: 0x0152, 0x8D: 0x8D, 0x8E: 0x017D, 0x8F: 0x8F,
		0x90: 0x90, 0x91: 0x2018, 0x92: 0x2019, 0x93: 0x201C, 0x94: 0x201D, 0x95: 0x2022, 0x96: 0x2013, 0x97: 0x2014,
		0x98: 0x02DC, 0x99: 0x2122, 0x9A: 0x0161, 0x9B: 0x203A, 0x9C: 0x0153, 0x9D: 0x9D, 0x9E: 0x017E, 0x9F: 0x0178,
	} {
		mustNumber(t, n, string(want))
	}
}

// P5.2: each other number up to 300; CR, LF, NUL's neighbours and those beside the table, too.
func TestNumberUpTo300(t *testing.T) {
	mustNumber(t, 0, "\xEF\xBF\xBD")
	for n := 1; n <= 300; n++ {
		if n < 0x80 || n > 0x9F {
			mustNumber(t, n, string(rune(n)))
		}
	}
	mustNumber(t, 1, "\x01")
	mustNumber(t, '\r', "\r")
	mustNumber(t, 0x41, "A")
	mustNumber(t, 0x7F, "\x7F")
	mustNumber(t, 0xA0, "\xC2\xA0")
	mustNumber(t, 0xFF, "\xC3\xBF")
	mustNumber(t, 0x100, "\xC4\x80")
}

// P5.2: at and beside the bounds.
func TestNumberAtItsBounds(t *testing.T) {
	mustNumber(t, 0xD7FF, "\xED\x9F\xBF")
	for n := 0xD800; n <= 0xDFFF; n++ {
		mustNumber(t, n, "\xEF\xBF\xBD")
	}
	mustNumber(t, 0xE000, "\xEE\x80\x80")
	mustNumber(t, 0xFFFD, "\xEF\xBF\xBD")
	mustNumber(t, 0xFFFE, "\xEF\xBF\xBE")
	mustNumber(t, 0xFFFF, "\xEF\xBF\xBF")
	mustNumber(t, 0x10000, "\xF0\x90\x80\x80")
	mustNumber(t, 0x10FFFE, "\xF4\x8F\xBF\xBE")
	mustNumber(t, 0x10FFFF, "\xF4\x8F\xBF\xBF")
	mustNumber(t, 0x110000, "\xEF\xBF\xBD")
	mustNumber(t, 0x110001, "\xEF\xBF\xBD")
}

// P5.2, R1: below 0, too great, and numbers whose lower bits alone are a rune's.
func TestNumberOfNone(t *testing.T) {
	for _, n := range []int{
		-1, -2, -65, -0x80, -0x9F, -0xD800, -0x10FFFF, math.MinInt, math.MinInt + 65, math.MinInt32, math.MinInt32 + 65,
		math.MaxInt, math.MaxInt - 1, math.MaxInt32, math.MaxInt32 + 1, math.MaxUint32, math.MaxUint32 + 1,
		1<<32 + 65, 1<<32 + 0x80, 1<<33 + 0x10FFFF, 1<<62 + 65, 0x200041,
	} {
		mustNumber(t, n, "\xEF\xBF\xBD")
	}
}

// P5.2: every other number that is a rune is that rune.
func TestNumberOfEveryRune(t *testing.T) {
	for n := 0xA0; n <= utf8.MaxRune; n++ {
		if got := Number(n); utf8.ValidRune(rune(n)) && got != string(rune(n)) {
			t.Fatalf("Number(%#x): %q", n, got)
		}
	}
}

// R1: long texts end, and in time; what stands far behind is not asked.
func TestLong(t *testing.T) {
	long := strings.Repeat("amp;", 1<<20)
	for range 1000 {
		mustNamed(t, long, "&", 4)
		mustNamed(t, long[1:], "", 0)
	}
}
