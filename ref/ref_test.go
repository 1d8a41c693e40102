package ref

import (
	"math"
	"math/big"
	"regexp"
	"strings"
	"testing"
	"unsafe"

	"arbour/refs"
)

const bad = "\xEF\xBF\xBD" // U+FFFD

func mustRead(t *testing.T, s string, at int, attr bool, want string, to int) {
	t.Helper()
	if text, end := Read(s, at, attr); text != want || end != to {
		t.Errorf("Read(%.80q, %d, %v): %.80q, %d, want %.80q, %d", s, at, attr, text, end, want, to)
	}
}

// mustBoth is for what hangs not on attr, at the beginning of a text and further on.
func mustBoth(t *testing.T, s, want string, to int) {
	t.Helper()
	for _, attr := range []bool{false, true} {
		mustRead(t, s, 0, attr, want, to)
		mustRead(t, "x&\xFF"+s, 3, attr, want, to+3)
	}
}

func mustAll(t *testing.T, s string, attr bool, want string) {
	t.Helper()
	if got := All(s, attr); got != want {
		t.Errorf("All(%.80q, %v): %.80q, want %.80q", s, attr, got, want)
	}
}

func mustAllBoth(t *testing.T, s, want string) {
	t.Helper()
	mustAll(t, s, false, want)
	mustAll(t, s, true, want)
}

var (
	inSixteens = regexp.MustCompile(`^&#[xX]([0-9a-fA-F]+);?`)
	inTens     = regexp.MustCompile(`^&#([0-9]+);?`)
	addresses  = regexp.MustCompile(`^[=a-zA-Z0-9]`)
)

// plainRead reads by the promise's words: numbers of any length are counted as they are.
func plainRead(s string, at int, attr bool) (string, int) {
	if at < 0 || at >= len(s) || s[at:at+1] != "&" {
		return "", at
	}
	for base, form := range map[int]*regexp.Regexp{16: inSixteens, 10: inTens} {
		if found := form.FindStringSubmatch(s[at:]); found != nil {
			n, _ := new(big.Int).SetString(found[1], base)
			if n.Cmp(big.NewInt(0x110000)) > 0 {
				n = big.NewInt(0x110000)
			}
			return refs.Number(int(n.Int64())), at + len(found[0])
		}
	}
	longest := ""
	for _, name := range refs.All() {
		if strings.HasPrefix(s[at+1:], name) && len(name) > len(longest) {
			longest = name
		}
	}
	end := at + 1 + len(longest)
	if longest == "" || attr && !strings.HasSuffix(longest, ";") && addresses.MatchString(s[end:]) {
		return "&" + longest, end
	}
	text, _ := refs.Named(longest)
	return text, end
}

func plainAll(s string, attr bool) string {
	out := ""
	for at := 0; at < len(s); {
		if s[at] != '&' {
			out += s[at : at+1]
			at++
			continue
		}
		text, end := plainRead(s, at, attr)
		out, at = out+text, end
	}
	return out
}

func TestRunOfTheChapter(t *testing.T) {
	mustAll(t, "&amp;lt &#65;&#x41 &#;", false, "&lt AA &#;")
}

func TestExamplesOfTheChapter(t *testing.T) {
	mustAll(t, "&notit;", true, "&notit;")
	mustAll(t, "&notit;", false, "\u00ACit;")
}

// P10.1: no ampersand at that place: empty, and the place as it was given.
func TestReadWhereNoneStands(t *testing.T) {
	for _, attr := range []bool{false, true} {
		for _, s := range []string{"", "a", "&", "&amp;", "a&amp;b", "&&", "\xFF&\xFF", "\uff06amp;"} {
			for _, at := range []int{-1, -2, -len(s), math.MinInt, math.MinInt + 1, math.MinInt32, len(s), len(s) + 1, math.MaxInt, math.MaxInt - 1, math.MaxInt32, 1 << 32} {
				if at == 0 && s != "" {
					continue
				}
				mustRead(t, s, at, attr, "", at)
			}
			for at := range len(s) {
				if s[at] != '&' {
					mustRead(t, s, at, attr, "", at)
				}
			}
		}
		for _, c := range []string{"a", ";", "#", "%", "'", " ", "\x00", "\xA6", "x", "amp;", "#65;"} {
			mustRead(t, c+"&amp;", 0, attr, "", 0)
		}
	}
}

// P10.1: at each place of a text by itself.
func TestReadAtPlaces(t *testing.T) {
	const s = "a&lt;&#65&&gt"
	for at := -2; at <= len(s)+2; at++ {
		want, to := "", at
		switch at {
		case 1:
			want, to = "<", 5
		case 5:
			want, to = "A", 9
		case 9:
			want, to = "&", 10
		case 10:
			want, to = ">", 13
		}
		mustRead(t, s, at, false, want, to)
		mustRead(t, s, at, true, want, to)
	}
}

// P10.1: an ampersand with nothing behind it that is a number or a name.
func TestReadOfTheAmpersandAlone(t *testing.T) {
	for _, more := range []string{
		"", " ", "\t", "\n", ";", "&", "&amp;", "=", "<", "a", "z", "A", "0", "9", "65;", "x41;", "\x00", "\x7F", "\u00e9", "\uff03", "\x80", "\xFF",
		"xyz;", "am", "am;", "Amp;", "aMP", "cent", "apos", "hellip", "NotEqualTilde", "n", "no", "no;", " amp;", ";amp;", "-amp",
		"#", "#;", "# 65;", "##65;", "#-65;", "#+65;", "#a", "#A", "#f", "#g;", "#/", "#:", "#=", "#&", "#&#65;", "#\x00", "#\u0661;", "#\uff11;", "#\xB9", "#amp;", "#y41;",
		"#x", "#X", "#x;", "#X;", "#xg", "#XG", "#x/", "#x:", "#x@", "#x`", "#x=", "#x 41;", "#xx41;", "#Xx", "#x#41;", "#x-41;", "#x&", "#x\x00", "#x\xFF", "#x\uff11;", "#\u00d7",
	} {
		mustBoth(t, "&"+more, "&", 1)
	}
}

// P10.1: all bytes that may stand behind, but for those that make a number.
func TestReadOfEveryByteBehind(t *testing.T) {
	for c := range 256 {
		b := string([]byte{byte(c)})
		for _, s := range []string{"&" + b, "&#" + b, "&#x" + b, "&#X" + b, "&#1" + b, "&#x1" + b, "&amp" + b, "&amp;" + b, "&not" + b, "&" + b + "amp;", "&#" + b + "1"} {
			for _, attr := range []bool{false, true} {
				want, to := plainRead(s, 0, attr)
				mustRead(t, s, 0, attr, want, to)
			}
		}
	}
}

// P10.1
func TestReadOfNumbersInTens(t *testing.T) {
	for _, c := range []struct {
		s, want string
		to      int
	}{
		{"&#9", "\t", 3}, {"&#9;", "\t", 4}, {"&#1", "\x01", 3}, {"&#8;", "\b", 4}, {"&#65", "A", 4}, {"&#65;", "A", 5}, {"&#122;", "z", 6},
		{"&#8364;", "\u20AC", 7}, {"&#128512", "\U0001F600", 8}, {"&#128512;", "\U0001F600", 9}, {"&#10;", "\n", 5}, {"&#13;", "\r", 5},
		{"&#065;", "A", 6}, {"&#000065", "A", 8}, {"&#0000000065;", "A", 13}, {"&#01", "\x01", 4},
		{"&#65;;", "A", 5}, {"&#65;;;", "A", 5}, {"&#65 ;", "A", 4}, {"&#65a", "A", 4}, {"&#65f;", "A", 4}, {"&#65F", "A", 4}, {"&#65g", "A", 4}, {"&#65x", "A", 4},
		{"&#65=", "A", 4}, {"&#65&", "A", 4}, {"&#65&#66;", "A", 4}, {"&#65#", "A", 4}, {"&#65:", "A", 4}, {"&#65/", "A", 4}, {"&#65\x00", "A", 4}, {"&#65\xFF", "A", 4}, {"&#65.5;", "A", 4}, {"&#65e1;", "A", 4}, {"&#6 5;", "\x06", 3},
		{"&#0x41;", bad, 3}, {"&#1_0;", "\x01", 3}, {"&#38;", "&", 5}, {"&#38;amp;", "&", 5}, {"&#60;", "<", 5}, {"&#34", "\"", 4}, {"&#65amp;", "A", 4},
		{"&#1234567890;", bad, 13}, {"&#1\u0661;", "\x01", 3},
	} {
		mustBoth(t, c.s, c.want, c.to)
	}
}

// P10.1
func TestReadOfNumbersInSixteens(t *testing.T) {
	for _, c := range []struct {
		s, want string
		to      int
	}{
		{"&#x9", "\t", 4}, {"&#X9;", "\t", 5}, {"&#xa", "\n", 4}, {"&#XA", "\n", 4}, {"&#xf;", "\x0F", 5}, {"&#xF;", "\x0F", 5},
		{"&#x41", "A", 5}, {"&#x41;", "A", 6}, {"&#X41", "A", 5}, {"&#X41;", "A", 6}, {"&#x4a", "J", 5}, {"&#x4A", "J", 5}, {"&#X4a;", "J", 6}, {"&#X4A;", "J", 6},
		{"&#x10", "\x10", 5}, {"&#x20ac;", "\u20AC", 8}, {"&#x20AC;", "\u20AC", 8}, {"&#X20aC", "\u20AC", 7}, {"&#x1F600;", "\U0001F600", 9}, {"&#xabcde", "\U000ABCDE", 8}, {"&#xABCDEF;", bad, 10}, {"&#xbcde;", "\uBCDE", 8}, {"&#xBCDE;", "\uBCDE", 8},
		{"&#x041;", "A", 7}, {"&#x000041;", "A", 10}, {"&#X000000004a", "J", 13},
		{"&#x41;;", "A", 6}, {"&#x41 ;", "A", 5}, {"&#x41g", "A", 5}, {"&#x41G;", "A", 5}, {"&#x41x", "A", 5}, {"&#x41X41;", "A", 5}, {"&#x41=", "A", 5}, {"&#x41&", "A", 5}, {"&#x41:", "A", 5}, {"&#x41/", "A", 5}, {"&#x41@", "A", 5}, {"&#x41`", "A", 5}, {"&#x41\x00", "A", 5}, {"&#x41\xFF", "A", 5},
		{"&#x41z", "A", 5}, {"&#x41a", "\u041A", 6}, {"&#x65;", "e", 6}, {"&#x26;", "&", 6}, {"&#x26;amp;", "&", 6}, {"&#x1_0", "\x01", 4},
	} {
		mustBoth(t, c.s, c.want, c.to)
	}
}

// P10.1: each digit by itself, in either base and in either form.
func TestReadOfEachDigit(t *testing.T) {
	for n, c := range "0123456789" {
		mustBoth(t, "&#10"+string(c)+";", string(rune(100+n)), 6)
		mustBoth(t, "&#"+string(c)+"5", string(rune(10*n+5)), 4)
	}
	for _, all := range []string{"0123456789abcdef", "0123456789ABCDEF"} {
		for n, c := range all {
			for _, x := range []string{"x", "X"} {
				mustBoth(t, "&#"+x+"4"+string(c)+";", string(rune(0x40+n)), 6)
				mustBoth(t, "&#"+x+"1"+string(c)+"1", string(rune(0x101+16*n)), 6)
			}
		}
	}
}

// P10.1: what refs.Number turns, written out, in tens and in sixteens.
func TestReadOfNumbersThatAreTurned(t *testing.T) {
	for _, c := range []struct {
		tens, sixteens, want string
	}{
		{"0", "0", bad}, {"000", "000", bad}, {"1", "1", "\x01"}, {"127", "7f", "\x7F"},
		{"128", "80", "\u20AC"}, {"129", "81", "\u0081"}, {"130", "82", "\u201A"}, {"131", "83", "\u0192"}, {"140", "8C", "\u0152"}, {"141", "8d", "\u008D"}, {"142", "8e", "\u017D"}, {"143", "8F", "\u008F"}, {"144", "90", "\u0090"},
		{"145", "91", "\u2018"}, {"146", "92", "\u2019"}, {"156", "9c", "\u0153"}, {"157", "9D", "\u009D"}, {"158", "9E", "\u017E"}, {"159", "9f", "\u0178"}, {"160", "a0", "\u00A0"},
		{"55295", "D7FF", "\uD7FF"}, {"55296", "d800", bad}, {"55297", "D801", bad}, {"56319", "dbff", bad}, {"56320", "DC00", bad}, {"57342", "dffe", bad}, {"57343", "DFFF", bad}, {"57344", "e000", "\uE000"},
		{"65533", "fffd", bad}, {"65534", "fffe", "\uFFFE"}, {"65535", "FFFF", "\uFFFF"}, {"65536", "10000", "\U00010000"},
		{"1114110", "10FFFE", "\U0010FFFE"}, {"1114111", "10ffff", "\U0010FFFF"}, {"1114112", "110000", bad}, {"1114113", "110001", bad},
	} {
		for _, zeros := range []string{"", "0", "0000000000000000000000"} {
			mustBoth(t, "&#"+zeros+c.tens, c.want, 2+len(zeros+c.tens))
			mustBoth(t, "&#"+zeros+c.tens+";", c.want, 3+len(zeros+c.tens))
			mustBoth(t, "&#x"+zeros+c.sixteens, c.want, 3+len(zeros+c.sixteens))
			mustBoth(t, "&#X"+zeros+c.sixteens+";0", c.want, 4+len(zeros+c.sixteens))
		}
	}
}

// P10.1: every number up to a little above the table, against refs.Number.
func TestReadOfEverySmallNumber(t *testing.T) {
	for n := range 300 {
		whole := big.NewInt(int64(n))
		for _, s := range []string{"&#" + whole.Text(10) + ";", "&#x" + whole.Text(16) + ";", "&#X" + strings.ToUpper(whole.Text(16)) + ";"} {
			mustBoth(t, s, refs.Number(n), len(s))
		}
	}
}

// P10.1, R1: numbers that do not fit: also those that would be a character if they wrapped round, by 32 bits or by 64.
func TestReadOfNumbersThatDoNotFit(t *testing.T) {
	for _, bits := range []uint{21, 24, 31, 32, 33, 48, 62, 63, 64, 65, 96, 127, 128, 129, 192, 256, 1024} {
		for _, more := range []int64{-1, 0, 1, 10, 65, 0x80, 0xD800, 0x10FFFF} {
			n := new(big.Int).Lsh(big.NewInt(1), bits)
			n.Add(n, big.NewInt(more))
			for _, s := range []string{"&#" + n.Text(10), "&#x" + n.Text(16), "&#X" + strings.ToUpper(n.Text(16))} {
				mustBoth(t, s, bad, len(s))
				mustBoth(t, s+";", bad, len(s)+1)
				mustBoth(t, s+";;", bad, len(s)+1)
				mustBoth(t, s+"z", bad, len(s))
			}
		}
	}
}

// P10.1: with a semicolon it is that character, whatever stands behind, with attr and without.
func TestReadOfNamesWithTheirSemicolon(t *testing.T) {
	for _, name := range refs.All() {
		if !strings.HasSuffix(name, ";") {
			continue
		}
		want, _ := refs.Named(name)
		for _, more := range []string{"", "=", "a", "Z", "0", "9", " ", ";", "&", "\x00", "\xFF", "\u00e9"} {
			mustBoth(t, "&"+name+more, want, 1+len(name))
		}
	}
	mustBoth(t, "&amp;", "&", 5)
	mustBoth(t, "&AMP;x", "&", 5)
	mustBoth(t, "&apos;=", "'", 6)
	mustBoth(t, "&hellip;9", "\u2026", 8)
	mustBoth(t, "&NotEqualTilde;a", "\u2242\u0338", 15)
	mustBoth(t, "&quot;\"", "\"", 6)
	mustBoth(t, "&nbsp;", "\u00A0", 6)
}

// P10.1: without one the sign behind it counts, if attr.
func TestReadOfNamesWithoutASemicolon(t *testing.T) {
	for _, name := range refs.All() {
		if strings.HasSuffix(name, ";") {
			continue
		}
		s, want, to := "&"+name, "", 1+len(name)
		want, _ = refs.Named(name)
		mustBoth(t, s, want, to)
		for _, more := range []string{"=", "=1", "a", "z", "A", "Z", "m", "M", "0", "9", "5", "a;", "x;y", "1;"} {
			mustRead(t, s+more, 0, false, want, to)
			mustRead(t, s+more, 0, true, s, to)
			mustRead(t, "&"+s+more, 1, false, want, to+1)
			mustRead(t, "&"+s+more, 1, true, s, to+1)
		}
		for _, more := range []string{" ", " =", "\t", "\n", "&", "&a", "\"", "'", "<", ">", ",", "-", "_", "/", ":", "@", "[", "`", "{", "#", "?", "\x00", "\x7F", "\u00e9", "\uff1d", "\uff21", "\u0661", "\x80", "\xBD", "\xC1", "\xE1", "\xFF"} {
			mustBoth(t, s+more, want, to)
		}
	}
	mustRead(t, "&copy=1", 0, false, "\u00A9", 5)
	mustRead(t, "&copy=1", 0, true, "&copy", 5)
	mustRead(t, "?a=b&lt=c", 4, true, "&lt", 7)
	mustRead(t, "?a=b&lt", 4, true, "<", 7)
	mustRead(t, "&gt5", 0, true, "&gt", 3)
	mustRead(t, "&QUOTx", 0, true, "&QUOT", 5)
}

// P10.1: a name that is the beginning of a longer one, and a longer one that is cut off.
func TestReadOfTheLongestName(t *testing.T) {
	mustBoth(t, "&notin;", "\u2209", 7)
	mustBoth(t, "&notin;x", "\u2209", 7)
	mustBoth(t, "&not", "\u00AC", 4)
	mustBoth(t, "&not;", "\u00AC", 5)
	mustBoth(t, "&not;in;", "\u00AC", 5)
	for _, s := range []string{"&noti", "&notin", "&notin=", "&notin ", "&notinx;", "&notit;", "&notIn;", "&notamp;", "&not=", "&not9"} {
		mustRead(t, s, 0, false, "\u00AC", 4)
		mustRead(t, s, 0, true, "&not", 4)
	}
	for _, s := range []string{"&ampersand", "&ampamp;", "&amplt;"} {
		mustRead(t, s, 0, false, "&", 4)
		mustRead(t, s, 0, true, "&amp", 4)
	}
	mustRead(t, "&timesb;", 0, false, "\u00D7", 6)
	mustRead(t, "&regx", 0, true, "&reg", 4)
	for _, s := range []string{"&centlt;", "&cent=", "&cent", "&apos=", "&mdash", "&mdashx;", "&ndash ", "&NotEqualTilde", "&NotEqualTildes;", "&Notin;"} {
		mustBoth(t, s, "&", 1)
	}
}

// P10.1: each name cut off at each place, with things behind it.
func TestReadOfNamesCutOff(t *testing.T) {
	for _, name := range refs.All() {
		for n := range len(name) {
			for _, more := range []string{"", "=", "q", "7", " ", ";", "\xFF", "&" + name} {
				s := "&" + name[:n] + more
				for _, attr := range []bool{false, true} {
					want, to := plainRead(s, 0, attr)
					mustRead(t, s, 0, attr, want, to)
				}
			}
		}
	}
}

// P10.2
func TestAllOfTextsWithoutReferences(t *testing.T) {
	for _, s := range []string{
		"", "a", " ", "amp;", "#65;", "a;b", "\x00", "\u00e9\u20ac\U0001F600", "\uff06amp;", "\xFF", "\xC3", "\xE2\x82", "a\x80b\xC0\x80\xED\xA0\x80", "\xEF\xBB\xBFx\r\n",
		"&", "&&", "&&&", "a&", "&a", "a&b&", "a & b", "& ", "&;", "&;;&;", "&#", "&#&#", "&#;&#x;&#X;", "&#xg&#a", "&x&y;&z", "&cent&apos", "&#\xFF&\xC3&", "&Amp;", "a&\x00b",
	} {
		mustAllBoth(t, s, s)
	}
}

// P10.2: one behind the other, at the beginning, at the end, and between others.
func TestAllOfSeveral(t *testing.T) {
	for _, c := range [][2]string{
		{"&amp;", "&"}, {"&lt;&gt;", "<>"}, {"&lt;&gt", "<>"}, {"&lt&gt&amp", "<>&"}, {"&#65;&#66;&#67", "ABC"}, {"&#65&#x42&#X43;", "ABC"}, {"&#65&#66;", "AB"},
		{"a&lt;b", "a<b"}, {"a&lt;", "a<"}, {"&lt;b", "<b"}, {" &lt &gt ", " < > "}, {"&&amp;&", "&&&"}, {"&&lt;", "&<"}, {"&&#65;", "&A"}, {"&#&#65;", "&#A"}, {"&#x&#x41;", "&#xA"}, {"&a&amp;b;", "&a&b;"},
		{"&lt;;", "<;"}, {"&#65;;", "A;"}, {"&#0;&#xD800;&#x110000;", bad + bad + bad}, {"&notin;&not;&not", "\u2209\u00AC\u00AC"}, {"&NotEqualTilde;=", "\u2242\u0338="},
		{"\xFF&amp;\xFE", "\xFF&\xFE"}, {"\xE2&#130;\x82", "\xE2\u201A\x82"}, {"\u00e9&eacute;\u00e9", "\u00e9\u00e9\u00e9"}, {"&#195;&#169;", "\u00c3\u00a9"}, {"\x00&lt;\x00", "\x00<\x00"},
	} {
		mustAllBoth(t, c[0], c[1])
	}
}

// P10.2: with attr and without they differ.
func TestAllOfAddresses(t *testing.T) {
	for _, c := range [][3]string{
		{"?a=1&copy=2&lt=3", "?a=1\u00A9=2<=3", "?a=1&copy=2&lt=3"},
		{"?a=1&copy;=2&lt;=3", "?a=1\u00A9=2<=3", "?a=1\u00A9=2<=3"},
		{"&notit;&not=1 &not", "\u00ACit;\u00AC=1 \u00AC", "&notit;&not=1 \u00AC"},
		{"&ampamp;&ampx&amp", "&amp;&x&", "&ampamp;&ampx&"},
		{"&lt1&lt;1", "<1<1", "&lt1<1"},
		{"&ltgt;&gt", "<gt;>", "&ltgt;>"},
		{"&amp#65;&ampx", "&#65;&x", "&#65;&ampx"},
		{"&lt\xFF&ltA\xFF", "<\xFF<A\xFF", "<\xFF&ltA\xFF"},
	} {
		mustAll(t, c[0], false, c[1])
		mustAll(t, c[0], true, c[2])
	}
}

// P10.2: what a reference stands for, or leaves as it stands, makes no new one.
func TestAllReadsNothingAgain(t *testing.T) {
	for _, c := range [][2]string{
		{"&amp;lt;", "&lt;"}, {"&amp;amp;amp;", "&amp;amp;"}, {"&amp;#65;", "&#65;"}, {"&#38;lt;", "&lt;"}, {"&#x26;#x41;", "&#x41;"}, {"&#38&#35;65;", "&#65;"}, {"&#38;#38;", "&#38;"},
		{"&amp;&amp;", "&&"}, {"&AMP;amp;&amp;AMP", "&amp;&AMP"}, {"&&amp;lt;", "&&lt;"}, {"&amp&lt;", "&<"}, {"&amp;&#35;65;", "&#65;"}, {"&a&#109;p;", "&amp;"}, {"&am&#112;", "&amp"},
	} {
		mustAllBoth(t, c[0], c[1])
	}
}

// texts calls f with every text of up to n of these parts.
func texts(parts []string, n int, f func(string)) {
	row := []string{""}
	for range n + 1 {
		var longer []string
		for _, s := range row {
			f(s)
			for _, p := range parts {
				longer = append(longer, s+p)
			}
		}
		row = longer
	}
}

// P10.1, P10.2: every short text of these parts, at every place, against the promise's words.
func TestAgainstPlainCalls(t *testing.T) {
	for _, parts := range [][]string{
		{"&", "#", "x", "X", "1", "f", ";", "=", "\xFF"},
		{"&", "amp", "not", "in", "cent", ";", "=", "9", " "},
	} {
		texts(parts, 5, func(s string) {
			for _, attr := range []bool{false, true} {
				for at := -1; at <= len(s)+1; at++ {
					// Where no ampersand stands, the plain call is not worth its time.
					want, to := "", at
					if at >= 0 && at < len(s) && s[at] == '&' {
						want, to = plainRead(s, at, attr)
					}
					mustRead(t, s, at, attr, want, to)
				}
				mustAll(t, s, attr, plainAll(s, attr))
			}
			if t.Failed() {
				t.FailNow()
			}
		})
	}
}

// P10.2, R1: long texts end, and in time.
func TestLong(t *testing.T) {
	const n = 1 << 20
	for _, c := range []struct{ s, want string }{
		{strings.Repeat("&", n), strings.Repeat("&", n)},
		{strings.Repeat("&#", n), strings.Repeat("&#", n)},
		{strings.Repeat("&#x", n), strings.Repeat("&#x", n)},
		{strings.Repeat("&amp;", n), strings.Repeat("&", n)},
		{strings.Repeat("&amp", n), strings.Repeat("&", n)},
		{strings.Repeat("&#65;", n), strings.Repeat("A", n)},
		{strings.Repeat("9", n), strings.Repeat("9", n)},
		{"&#" + strings.Repeat("9", n), bad},
		{"&#" + strings.Repeat("9", n) + ";;", bad + ";"},
		{"&#x" + strings.Repeat("f", n), bad},
		{"&#X" + strings.Repeat("F", n) + "g", bad + "g"},
		{"&#" + strings.Repeat("0", n) + "65;", "A"},
		{"&#x" + strings.Repeat("0", n) + "41", "A"},
		{"&#" + strings.Repeat("0", n), bad},
		{strings.Repeat("\xFF ", n) + "&lt", strings.Repeat("\xFF ", n) + "<"},
		{"&" + strings.Repeat("z", n), "&" + strings.Repeat("z", n)},
	} {
		mustAllBoth(t, c.s, c.want)
	}
	mustAll(t, strings.Repeat("&notx", n), false, strings.Repeat("\u00ACx", n))
	mustAll(t, strings.Repeat("&notx", n), true, strings.Repeat("&notx", n))
	mustBoth(t, "&#"+strings.Repeat("9", n)+";", bad, n+3)
	mustBoth(t, "&#x"+strings.Repeat("0", n)+"41", "A", n+5)
}

// R2: texts that are answered are no piece of what was given.
func TestMemory(t *testing.T) {
	for _, s := range []string{"abc", "abc&", "&notit;&ampx", "x&lt;"} {
		s = strings.Repeat(s, 3)
		from := uintptr(unsafe.Pointer(unsafe.StringData(s)))
		for _, attr := range []bool{false, true} {
			answers := []string{All(s, attr)}
			for at := range len(s) {
				text, _ := Read(s, at, attr)
				answers = append(answers, text)
			}
			for _, text := range answers {
				if at := uintptr(unsafe.Pointer(unsafe.StringData(text))); text != "" && at >= from && at < from+uintptr(len(s)) {
					t.Errorf("%q is a piece of what was given", text)
				}
			}
		}
	}
}

// R5: texts that are made of one piece of memory, so that bytes stand right behind each: they are not read.
func TestBytesBehindTheTextAreNotRead(t *testing.T) {
	whole := "&notin;=&#x41;&#65;&lt="
	mustRead(t, whole[:1], 0, false, "&", 1)
	mustRead(t, whole[:4], 0, true, "\u00AC", 4)
	mustRead(t, whole[:6], 0, false, "\u00AC", 4)
	mustRead(t, whole[:7], 0, true, "\u2209", 7)
	mustRead(t, whole[:9], 8, false, "&", 9)
	mustRead(t, whole[:10], 8, false, "&", 9)
	mustRead(t, whole[:11], 8, false, "&", 9)
	mustRead(t, whole[:12], 8, false, "\x04", 12)
	mustRead(t, whole[:13], 8, false, "A", 13)
	mustRead(t, whole[:17], 14, false, "\x06", 17)
	mustRead(t, whole[:18], 14, false, "A", 18)
	mustRead(t, whole[:22], 19, true, "<", 22)
	mustRead(t, whole[:23], 19, true, "&lt", 22)
	mustAll(t, whole[8:13], true, "A")
	mustAll(t, whole[7:8], false, "=")
}
