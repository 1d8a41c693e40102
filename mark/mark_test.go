package mark

import (
	"math"
	"regexp"
	"strings"
	"testing"
	"unsafe"

	"arbour/api"
	"arbour/token"
)

var (
	allSpaces   = []string{" ", "\t", "\n", "\f", "\r"}
	otherSpaces = []string{"\v", "\x00", "\x1C", "\x85", "\xA0", "\u00a0", "\u2003", "\u2028", "\u3000", "\ufeff"}
	oddPlaces   = []int{-1, -2, -3, -4, math.MinInt, math.MinInt + 1, math.MinInt32, math.MaxInt, math.MaxInt - 1, math.MaxInt - 2, math.MaxInt32, 1 << 32}
	wrongTexts  = []string{"\xFF", "\xC3", "\x80", "a\xE2\x82", "\xED\xA0\x80", "\xC0\x80", "\xF0\x9F\x98z", "\xBE\xAD", "\xBC"}
	nothing     = api.Token{}
)

func comm(text string) api.Token { return api.Token{Kind: api.Comment, Text: text} }

func doct(name string) api.Token { return api.Token{Kind: api.Doctype, Name: name} }

func text(text string) api.Token { return api.Token{Kind: api.Text, Text: text} }

func mustAnswer(t *testing.T, s string, at int, foreign bool, want api.Token, to int, told bool) {
	t.Helper()
	x, next, ok := Read(s, at, foreign)
	if !token.Same(x, want) || next != to || ok != told {
		t.Errorf("Read(%.80q, %d, %v): %.80q, %d, %v, want %.80q, %d, %v", s, at, foreign, token.Text(x), next, ok, token.Text(want), to, told)
	}
	if x.Kind != 0 && !token.Right(x) {
		t.Errorf("Read(%.80q, %d, %v): %.80q is not right", s, at, foreign, token.Text(x))
	}
}

// mustBoth is for what is the same with foreign and without.
func mustBoth(t *testing.T, s string, at int, want api.Token, to int, told bool) {
	t.Helper()
	mustAnswer(t, s, at, false, want, to, told)
	mustAnswer(t, s, at, true, want, to, told)
}

// mustWhole is for a thing that is the whole text and has an end: it is read with and without things ahead of it and behind it.
func mustWhole(t *testing.T, s string, want api.Token) {
	t.Helper()
	mustBoth(t, s, 0, want, len(s), true)
	for _, more := range []string{">", "-->", "--!>", "]]>", "x", " ", s, "<!--", "\xFF", "-", "]"} {
		mustBoth(t, s+more, 0, want, len(s), true)
		mustBoth(t, "<!-"+s+more, 3, want, 3+len(s), true)
		mustBoth(t, "\xFF--!"+s+more, 4, want, 4+len(s), true)
	}
}

// mustLast is for a thing without an end: it runs to the text's.
func mustLast(t *testing.T, s string, want api.Token) {
	t.Helper()
	mustBoth(t, s, 0, want, len(s), true)
	mustBoth(t, "<!--"+s, 4, want, 4+len(s), true)
	mustBoth(t, "\xFF>"+s, 2, want, 2+len(s), true)
}

func mustNone(t *testing.T, s string, at int) {
	t.Helper()
	mustBoth(t, s, at, nothing, at, false)
}

// mustCut reads s cut off at each of its places from 2 on: want is what is told of each, "?" of nothing.
func mustCut(t *testing.T, s string, foreign bool, want ...string) {
	t.Helper()
	mustNone(t, s[:0], 0)
	mustNone(t, s[:1], 0)
	for i, w := range want {
		x, next, ok := Read(s[:2+i], 0, foreign)
		if token.Text(x) != w || next != 2+i || !ok {
			t.Errorf("Read(%q, 0, %v): %q, %d, %v, want %q", s[:2+i], foreign, token.Text(x), next, ok, w)
		}
	}
	if len(want) != len(s)-1 {
		t.Errorf("%q: %d answers", s, len(want))
	}
}

var (
	beginsOne   = regexp.MustCompile(`(?s)^<(?:[!?]|/[^a-zA-Z])`)
	commentAt   = regexp.MustCompile(`(?s)^<!--(?:-?>|(.*?)--!?>)`)
	commentCut  = regexp.MustCompile(`(?s)^<!--(.*?)(?:--!|--|-|)\z`)
	doctypeAt   = regexp.MustCompile(`^<![dD][oO][cC][tT][yY][pP][eE][\t\n\f\r ]*([^\t\n\f\r >]*)[^>]*>?`)
	cdataAt     = regexp.MustCompile(`(?s)^<!\[CDATA\[(.*?)(?:\]\]>|\z)`)
	questionAt  = regexp.MustCompile(`^<(\?[^>]*)>?`)
	otherAt     = regexp.MustCompile(`^<[!/]([^>]*)>?`)
	capitals    = "ABCDEFGHIJKLMNOPQRSTUVWXYZ"
	smallOnes   = "abcdefghijklmnopqrstuvwxyz"
	plainLowers = func() *strings.Replacer {
		var pairs []string
		for i := range len(capitals) {
			pairs = append(pairs, capitals[i:i+1], smallOnes[i:i+1])
		}
		return strings.NewReplacer(pairs...)
	}()
)

// plainRead reads by the promise's words, one form after the other.
func plainRead(s string, at int, foreign bool) (api.Token, int, bool) {
	if at < 0 || at > len(s) || !beginsOne.MatchString(s[at:]) {
		return nothing, at, false
	}
	rest := s[at:]
	if strings.HasPrefix(rest, "</>") {
		return nothing, at + 3, true
	}
	for _, form := range []*regexp.Regexp{commentAt, commentCut} {
		if m := form.FindStringSubmatch(rest); m != nil {
			return comm(m[1]), at + len(m[0]), true
		}
	}
	if m := doctypeAt.FindStringSubmatch(rest); m != nil {
		return doct(plainLowers.Replace(m[1])), at + len(m[0]), true
	}
	if m := cdataAt.FindStringSubmatch(rest); m != nil && foreign {
		if m[1] == "" {
			return nothing, at + len(m[0]), true
		}
		return text(m[1]), at + len(m[0]), true
	}
	if m := questionAt.FindStringSubmatch(rest); m != nil {
		return comm(m[1]), at + len(m[0]), true
	}
	m := otherAt.FindStringSubmatch(rest)
	return comm(m[1]), at + len(m[0]), true
}

func mustBePlain(t *testing.T, s string, at int) {
	t.Helper()
	for _, foreign := range []bool{false, true} {
		want, to, told := plainRead(s, at, foreign)
		mustAnswer(t, s, at, foreign, want, to, told)
	}
}

func TestRunOfTheChapter(t *testing.T) {
	mustBoth(t, "<!--a--!>b", 0, comm("a"), 9, true)
}

func TestExamplesOfTheChapter(t *testing.T) {
	mustBoth(t, "<?x>", 0, comm("?x"), 4, true)
	mustBoth(t, "<!DOCTYPE>", 0, doct(""), 10, true)
}

// P12.1: nothing that begins so: zero, and the place as it was given.
func TestReadWhereNoneStands(t *testing.T) {
	for _, s := range []string{
		"", "a", "!", "?", "/", ">", "-", "!--a-->", "?x>", "/>", "/1>", "!doctype>", "![CDATA[a]]>", "-->", "]]>", " <!>", "\n<?>", "x</1>", "&lt;!>", "\x00<!>", "\xFF<!>", "\uff1c!>",
		"<", "<p", "<p>", "<P>", "<>", "<<", "<<!>", "<<!--a-->", "< !>", "<\t?>", "<\n/1>", "< ", "<1>", "<-", "<--a-->", "<--!>", "<[CDATA[a]]>", "<doctype>", "<&!>", "<=", "<\"", "<@", "<\x00!>", "<\x80!>", "<\xFF?>", "<\u00a1>", "<\uff01>", "<\uff0f>", "<\uff1f>", "<\xA1>", "<\xBF>", "<\xAF>",
		"</", "</a", "</z>", "</A>", "</Z", "</p>", "</p!>", "</P -->", "</doctype>", "</x/>",
	} {
		mustNone(t, s, 0)
		mustNone(t, "<!>"+s, 3)
		mustNone(t, "<!--"+s, 4)
		for _, at := range append([]int{len(s), len(s) + 1, len(s) + 2}, oddPlaces...) {
			mustNone(t, s, at)
		}
	}
}

// P12.1: places that are none of the text's, whatever stands in it.
func TestReadAtPlacesThatAreNone(t *testing.T) {
	for _, s := range []string{"<!>", "<?>", "</>", "</1>", "<!-->", "<!--a-->", "<!doctype html>", "<![CDATA[a]]>", "<!", "<?", "</1", "<!--", "<![CDATA[", "<!doctype"} {
		for _, at := range oddPlaces {
			mustNone(t, s, at)
			mustNone(t, s+s, at)
		}
		for _, at := range []int{len(s), len(s) + 1, len(s) + 2, 2 * len(s), -len(s), -len(s) - 1, math.MaxInt - len(s), math.MinInt + len(s)} {
			mustNone(t, s, at)
		}
	}
}

// P12.1: every byte behind <: !, ? and / alone begin something.
func TestReadOfEverySecondByte(t *testing.T) {
	for c := range 256 {
		b := string([]byte{byte(c)})
		switch b {
		case "!":
			mustLast(t, "<!", comm(""))
			mustWhole(t, "<!1>", comm("1"))
		case "?":
			mustLast(t, "<?", comm("?"))
			mustWhole(t, "<?1>", comm("?1"))
		case "/":
			mustNone(t, "</", 0)
			mustWhole(t, "</1>", comm("1"))
		default:
			mustNone(t, "<"+b, 0)
			mustNone(t, "<"+b+"1>", 0)
			mustNone(t, "<"+b+"--a-->", 0)
		}
	}
}

// P12.1: every byte behind </, <! and <?.
func TestReadOfEveryThirdByte(t *testing.T) {
	for c := range 256 {
		b := string([]byte{byte(c)})
		if b == ">" {
			mustWhole(t, "</>", nothing)
			mustWhole(t, "<!>", comm(""))
			mustWhole(t, "<?>", comm("?"))
			continue
		}
		mustWhole(t, "<!"+b+">", comm(b))
		mustWhole(t, "<!"+b+"a-->", comm(b+"a--"))
		mustLast(t, "<!"+b, comm(b))
		mustWhole(t, "<?"+b+">", comm("?"+b))
		mustWhole(t, "<?"+b+"?>", comm("?"+b+"?"))
		mustLast(t, "<?"+b, comm("?"+b))
		if c >= 'a' && c <= 'z' || c >= 'A' && c <= 'Z' {
			mustNone(t, "</"+b, 0)
			mustNone(t, "</"+b+">", 0)
			mustNone(t, "</"+b+"1>", 0)
			continue
		}
		mustWhole(t, "</"+b+">", comm(b))
		mustWhole(t, "</"+b+"a>", comm(b+"a"))
		mustLast(t, "</"+b, comm(b))
	}
}

// P12.1: at each place of a text by itself.
func TestReadAtPlaces(t *testing.T) {
	const s = "x<!a><?b></></1><!--c--><!DOCTYPE d><![CDATA[>]]><!--<!--e"
	for at := -2; at <= len(s)+2; at++ {
		switch at {
		case 1:
			mustBoth(t, s, at, comm("a"), 5, true)
		case 5:
			mustBoth(t, s, at, comm("?b"), 9, true)
		case 9:
			mustBoth(t, s, at, nothing, 12, true)
		case 12:
			mustBoth(t, s, at, comm("1"), 16, true)
		case 16:
			mustBoth(t, s, at, comm("c"), 24, true)
		case 24:
			mustBoth(t, s, at, doct("d"), 36, true)
		case 36:
			mustAnswer(t, s, at, false, comm("[CDATA["), 46, true)
			mustAnswer(t, s, at, true, text(">"), 49, true)
		case 49:
			mustBoth(t, s, at, comm("<!--e"), len(s), true)
		case 53:
			mustBoth(t, s, at, comm("e"), len(s), true)
		default:
			mustNone(t, s, at)
		}
	}
}

// P12.1: </> is nothing, and is passed by.
func TestReadOfAnEmptyTag(t *testing.T) {
	mustWhole(t, "</>", nothing)
	mustBoth(t, "</></>", 3, nothing, 6, true)
	mustBoth(t, "</>>", 0, nothing, 3, true)
	mustBoth(t, "a</>b", 1, nothing, 4, true)
	mustWhole(t, "</ >", comm(" "))
	mustWhole(t, "<//>", comm("/"))
	mustNone(t, "</", 0)
	mustNone(t, "<>", 0)
}

// P12.1: what is a Comment because it is nothing else, with and without a >.
func TestReadOfOtherComments(t *testing.T) {
	for _, c := range []string{
		"", "x", "X", "x y", " ", "\t\n\f\r ", "-", "-x--", "- -", "--", "a--", "a--!", "!", "!--a--", "?", "??", "/", "a/", "=", "\"'", "<", "<!--", "<p", "&lt;", "&", "]]", "[", "[if IE]", "[CDATA", "[ CDATA[", "ELEMENT br EMPTY", "xml version='1.0'?", "doctyp", "docttype", " doctype", "\x00", "\v", "\u00e9", "\u20ac", "\U0001F600", "\uff1e",
	} {
		for _, wrong := range append([]string{""}, wrongTexts...) {
			if !strings.HasPrefix(c, "--") {
				mustWhole(t, "<!"+c+wrong+">", comm(c+wrong))
				mustLast(t, "<!"+c+wrong, comm(c+wrong))
			}
			mustWhole(t, "<?"+c+wrong+">", comm("?"+c+wrong))
			mustLast(t, "<?"+c+wrong, comm("?"+c+wrong))
			mustWhole(t, "</ "+c+wrong+">", comm(" "+c+wrong))
			mustLast(t, "</1"+c+wrong, comm("1"+c+wrong))
		}
	}
	mustWhole(t, "</!--a-->", comm("!--a--"))
	mustWhole(t, "</?a>", comm("?a"))
	mustWhole(t, "</!doctype html>", comm("!doctype html"))
	mustWhole(t, "</![CDATA[a]]>", comm("![CDATA[a]]"))
	mustWhole(t, "<?--a-->", comm("?--a--"))
	mustWhole(t, "<?doctype html>", comm("?doctype html"))
	mustWhole(t, "<?[CDATA[a]]>", comm("?[CDATA[a]]"))
	mustWhole(t, "<? >", comm("? "))
	mustBoth(t, "<!a>b>", 0, comm("a"), 4, true)
	mustBoth(t, "<?a>b>", 0, comm("?a"), 4, true)
	mustBoth(t, "</1>b>", 0, comm("1"), 4, true)
	mustBoth(t, "</ p='>'>", 0, comm(" p='"), 7, true)
	mustCut(t, "<?a b>", false, "-?", "-?a", "-?a ", "-?a b", "-?a b")
	mustCut(t, "<!a b>", true, "-", "-a", "-a ", "-a b", "-a b")
	mustLast(t, "</ ", comm(" "))
	mustLast(t, "</ a", comm(" a"))
}

// P12.1: the short forms: > or -> right behind the beginning.
func TestReadOfShortComments(t *testing.T) {
	mustWhole(t, "<!-->", comm(""))
	mustWhole(t, "<!--->", comm(""))
	mustWhole(t, "<!---->", comm(""))
	mustWhole(t, "<!----!>", comm(""))
	mustBoth(t, "<!-->-->", 0, comm(""), 5, true)
	mustBoth(t, "<!--->-->", 0, comm(""), 6, true)
	mustBoth(t, "<!---->-->", 0, comm(""), 7, true)
	mustBoth(t, "<!-->a--!>", 0, comm(""), 5, true)
	mustBoth(t, "<!-->>", 0, comm(""), 5, true)
	mustWhole(t, "<!----->", comm("-"))
	mustWhole(t, "<!------>", comm("--"))
	mustWhole(t, "<!-----!>", comm("-"))
	// Neither right behind: the signs of the beginning are no part of an end.
	mustWhole(t, "<!--!>-->", comm("!>"))
	mustWhole(t, "<!---!>-->", comm("-!>"))
	mustWhole(t, "<!-- >-->", comm(" >"))
	mustWhole(t, "<!-- ->-->", comm(" ->"))
	mustWhole(t, "<!--- >-->", comm("- >"))
	mustWhole(t, "<!--a>-->", comm("a>"))
	mustWhole(t, "<!--a->-->", comm("a->"))
	mustLast(t, "<!--!>", comm("!>"))
	mustLast(t, "<!---!>", comm("-!>"))
	mustLast(t, "<!-- >", comm(" >"))
	mustLast(t, "<!---a>", comm("-a>"))
	// One dash is no beginning.
	mustWhole(t, "<!->", comm("-"))
	mustWhole(t, "<!-a-->", comm("-a--"))
	mustWhole(t, "<!- -->", comm("- --"))
	mustWhole(t, "<! -->", comm(" --"))
	mustWhole(t, "<!-!>", comm("-!"))
}

// P12.1: a Comment's text ends at the first end of either kind.
func TestReadOfComments(t *testing.T) {
	for _, c := range append([]string{
		"", "a", "A", "ab c", " ", " a ", "\t\n\f\r", "-a", "- ", "a-b", "a--b", "a --b", "a-- ", "a--x>", "a--x", "a-- >", "a--!x", "a--! >", "a--!->", "a--!-x", "a--!--x", "a->", "a>", "a!>", "a-!>", "!", "!>", "<!", "<!-", "<!--", "<!--b", "a<!--b", "a<!-- -- b", "<!---b", "--b", "--!b", "--!!>", "a--!!>", "<p>", "</p>", "]]>", "&gt;", "&--&gt;", "?", "\x00", "\v", "\u00e9\u20ac", "\U0001F600", "\uff0d\uff0d>", "\u2010\u2010>",
	}, wrongTexts...) {
		mustWhole(t, "<!--"+c+"-->", comm(c))
		mustWhole(t, "<!--"+c+"--!>", comm(c))
		mustBoth(t, "<!--"+c+"-->b--!>", 0, comm(c), 7+len(c), true)
		mustBoth(t, "<!--"+c+"--!>b-->", 0, comm(c), 8+len(c), true)
		mustBoth(t, "<!--"+c+"-->--!>", 0, comm(c), 7+len(c), true)
		mustBoth(t, "<!--"+c+"--!>-->", 0, comm(c), 8+len(c), true)
		mustLast(t, "<!--a"+c+"x", comm("a"+c+"x"))
	}
	mustWhole(t, "<!--a--->", comm("a-"))
	mustWhole(t, "<!--a---->", comm("a--"))
	mustWhole(t, "<!--a---!>", comm("a-"))
	mustWhole(t, "<!--a--!-->", comm("a--!"))
	mustWhole(t, "<!--a--!--!>", comm("a--!"))
	mustWhole(t, "<!--a--!--->", comm("a--!-"))
	mustWhole(t, "<!--a--!!-->", comm("a--!!"))
	mustWhole(t, "<!--a--\xFF>-->", comm("a--\xFF>"))
	mustWhole(t, "<!--\xE2\x82-->", comm("\xE2\x82"))
}

// P12.1: what is left, less one --!, -- or - at its end.
func TestReadOfCommentsWithoutAnEnd(t *testing.T) {
	for _, c := range append([]string{"", "a", "ab", "a b ", "a>", "a->", "a--b", "a--x>", "a!", "-!", "a-!", "a--!!", "--!!", "a--! ", "!", "a<!--b", "<!", "a\n", "\x00", "\u00e9", "\uff0d"}, wrongTexts...) {
		mustLast(t, "<!--"+c, comm(c))
		for _, end := range []string{"-", "--", "--!"} {
			mustLast(t, "<!--"+c+end, comm(c))
		}
		mustLast(t, "<!--"+c+"---", comm(c+"-"))
		mustLast(t, "<!--"+c+"----", comm(c+"--"))
		mustLast(t, "<!--"+c+"---!", comm(c+"-"))
		mustLast(t, "<!--"+c+"--!-", comm(c+"--!"))
		mustLast(t, "<!--"+c+"--!--", comm(c+"--!"))
		mustLast(t, "<!--"+c+"--!--!", comm(c+"--!"))
		mustLast(t, "<!--"+c+"--!---", comm(c+"--!-"))
		mustLast(t, "<!--"+c+"-- -", comm(c+"-- "))
		mustLast(t, "<!--"+c+"--!!", comm(c+"--!!"))
		mustLast(t, "<!--"+c+"-!", comm(c+"-!"))
	}
	mustLast(t, "<!---", comm(""))
	mustLast(t, "<!----", comm(""))
	mustLast(t, "<!-----", comm("-"))
	mustLast(t, "<!----!", comm(""))
	mustLast(t, "<!---!", comm("-!"))
	mustLast(t, "<!--!", comm("!"))
	mustLast(t, "<!----!-", comm("--!"))
}

// P12.1: each cut off at each of its places.
func TestReadOfCommentsCutOff(t *testing.T) {
	for _, foreign := range []bool{false, true} {
		mustCut(t, "<!-->", foreign, "-", "--", "-", "-")
		mustCut(t, "<!--->", foreign, "-", "--", "-", "-", "-")
		mustCut(t, "<!---->", foreign, "-", "--", "-", "-", "-", "-")
		mustCut(t, "<!----!>", foreign, "-", "--", "-", "-", "-", "-", "-")
		mustCut(t, "<!--ab-->", foreign, "-", "--", "-", "-a", "-ab", "-ab", "-ab", "-ab")
		mustCut(t, "<!--ab--!>", foreign, "-", "--", "-", "-a", "-ab", "-ab", "-ab", "-ab", "-ab")
		mustCut(t, "<!--a--b-->", foreign, "-", "--", "-", "-a", "-a", "-a", "-a--b", "-a--b", "-a--b", "-a--b")
		mustCut(t, "<!--a--!b--!>", foreign, "-", "--", "-", "-a", "-a", "-a", "-a", "-a--!b", "-a--!b", "-a--!b", "-a--!b", "-a--!b")
		mustCut(t, "<!--a--!-->", foreign, "-", "--", "-", "-a", "-a", "-a", "-a", "-a--!", "-a--!", "-a--!")
		mustCut(t, "<!--a--->", foreign, "-", "--", "-", "-a", "-a", "-a", "-a-", "-a-")
		mustCut(t, "<!--<!---->", foreign, "-", "--", "-", "-<", "-<!", "-<!", "-<!", "-<!-", "-<!--", "-<!--")
	}
}

// P12.1: the word of a Doctype, as Fold, with nothing more.
func TestReadOfTheWordDoctype(t *testing.T) {
	for _, word := range []string{"DOCTYPE", "doctype", "DocType", "dOCtYPE", "Doctype", "doctypE"} {
		mustWhole(t, "<!"+word+">", doct(""))
		mustLast(t, "<!"+word, doct(""))
		mustWhole(t, "<!"+word+" html>", doct("html"))
		mustWhole(t, "<!"+word+"HTML>", doct("html"))
		mustWhole(t, "</!"+word+">", comm("!"+word))
		mustWhole(t, "<?"+word+">", comm("?"+word))
		mustWhole(t, "<! "+word+">", comm(" "+word))
		mustWhole(t, "<!!"+word+">", comm("!"+word))
		mustWhole(t, "<!-"+word+">", comm("-"+word))
		mustNone(t, "<"+word+">", 0)
		for n := range len(word) {
			mustWhole(t, "<!"+word[:n]+">", comm(word[:n]))
			mustLast(t, "<!"+word[:n], comm(word[:n]))
			mustWhole(t, "<!"+word[:n]+" "+word[n:]+">", comm(word[:n]+" "+word[n:]))
			// A byte that is no letter, and one that differs from it in one bit as capitals do from small letters.
			for _, other := range []string{"\x00", "x", "\xFF", "@", "`", string([]byte{word[n] | 0x80}), string([]byte{word[n] &^ 0x40})} {
				near := word[:n] + other + word[n+1:]
				if strings.Contains(near, ">") {
					continue
				}
				mustWhole(t, "<!"+near+" html>", comm(near+" html"))
			}
		}
	}
	for _, near := range []string{"doctyp", "octype", "doc type", "doctipe", "ddoctype", "docttype", "doktype", "doc-type", "d\u043ectype", "do\u0441type", "doctyp\u0435", "\uff44octype", "DOCTYP\xC3", "doctyp\x05", "doctyp%"} {
		mustWhole(t, "<!"+near+">", comm(near))
		mustWhole(t, "<!"+near+" html>", comm(near+" html"))
		mustLast(t, "<!"+near+" html", comm(near+" html"))
	}
}

// P12.1: a Doctype's Name: Spaces ahead of it, and what ends it.
func TestReadOfDoctypes(t *testing.T) {
	spaces := append([]string{"", "  ", "\r\n", " \t\n\f\r ", "\f\f\f"}, allSpaces...)
	for _, c := range [][2]string{
		{"html", "html"}, {"HTML", "html"}, {"hTmL", "html"}, {"svg", "svg"}, {"x1", "x1"}, {"1", "1"}, {"-", "-"}, {"--", "--"}, {"a/b", "a/b"}, {"/", "/"}, {"a=B", "a=b"}, {"\"A\"", "\"a\""}, {"'", "'"}, {"<P", "<p"}, {"<!--", "<!--"}, {"&LT;", "&lt;"}, {"[A]]", "[a]]"}, {"!", "!"}, {"?", "?"}, {"AZaz@[`{", "azaz@[`{"}, {"doctype", "doctype"},
		{"\u00c9", "\u00c9"}, {"A\u212aB", "a\u212ab"}, {"\u0130I", "\u0130i"}, {"\u0410\u0411", "\u0410\u0411"}, {"\u0391", "\u0391"}, {"\uff21", "\uff21"}, {"\u65e5\u672c", "\u65e5\u672c"}, {"\U0001F600Z", "\U0001F600z"}, {"\u00a0", "\u00a0"}, {"a\vB", "a\vb"}, {"\x00A", "\x00a"}, {"\uff1e", "\uff1e"},
		{"\xFF", "\xFF"}, {"A\xC3", "a\xC3"}, {"\xC1B", "\xC1b"}, {"\xE2\x82A", "\xE2\x82a"}, {"\x80\xED\xA0\x80", "\x80\xED\xA0\x80"}, {"\x85\xA0\xBE", "\x85\xA0\xBE"},
	} {
		for _, ahead := range spaces {
			s := "<!DocType" + ahead + c[0]
			mustWhole(t, s+">", doct(c[1]))
			mustLast(t, s, doct(c[1]))
			for _, space := range allSpaces {
				mustWhole(t, s+space+">", doct(c[1]))
				mustLast(t, s+space, doct(c[1]))
				mustWhole(t, s+space+"x>", doct(c[1]))
				mustLast(t, s+space+"x", doct(c[1]))
			}
		}
	}
	for _, ahead := range spaces {
		mustWhole(t, "<!doctype"+ahead+">", doct(""))
		mustLast(t, "<!doctype"+ahead, doct(""))
		mustBoth(t, "<!doctype"+ahead+">html>", 0, doct(""), 10+len(ahead), true)
	}
	for _, space := range otherSpaces {
		mustWhole(t, "<!doctype"+space+"A>", doct(space+"a"))
		mustWhole(t, "<!doctype a"+space+"B>", doct("a"+space+"b"))
		mustWhole(t, "<!doctype"+space+">", doct(space))
	}
}

// P12.1: what stands behind a Doctype's Name is passed by up to the next >, quotes or not.
func TestReadOfMoreInDoctypes(t *testing.T) {
	for _, more := range append([]string{
		"", " ", "x", "  x  y ", "public 'x'", "PUBLIC \"-//W3C//DTD HTML 4.01//EN\" \"http://www.w3.org/TR/html4/strict.dtd\"", "SYSTEM 'about:legacy-compat'", "public 'x", "\"", "[ <!ELEMENT a (b)", "<p", "<!--", "--", "-- a --", "]]", "[CDATA[", "/", "\x00", "\n\n", "html", "\u00e9",
	}, wrongTexts...) {
		mustWhole(t, "<!doctype html "+more+">", doct("html"))
		mustLast(t, "<!doctype html "+more, doct("html"))
	}
	mustBoth(t, "<!doctype html public 'a>b'>", 0, doct("html"), 25, true)
	mustBoth(t, "<!doctype html \">\">", 0, doct("html"), 17, true)
	mustBoth(t, "<!doctype html><!doctype x>", 15, doct("x"), 27, true)
	mustBoth(t, "<!doctype html [<!ELEMENT a>]>", 0, doct("html"), 28, true)
}

// P12.1: a Doctype that is cut off at each of its places.
func TestReadOfDoctypesCutOff(t *testing.T) {
	for _, foreign := range []bool{false, true} {
		mustCut(t, "<!DOCTYPE Ab C>", foreign, "-", "-D", "-DO", "-DOC", "-DOCT", "-DOCTY", "-DOCTYP", "!", "!", "!a", "!ab", "!ab", "!ab", "!ab")
		mustCut(t, "<!doctype>", foreign, "-", "-d", "-do", "-doc", "-doct", "-docty", "-doctyp", "!", "!")
		mustCut(t, "<!doctypeX\n>", foreign, "-", "-d", "-do", "-doc", "-doct", "-docty", "-doctyp", "!", "!x", "!x", "!x")
	}
}

// P12.1: with foreign a CDATA section is a Text.
func TestReadOfCDATA(t *testing.T) {
	for _, c := range append([]string{
		"a", "A b", " ", "\t\n\f\r ", "]", "]]", "]]]", "]]]]", "a]", "a]b", "a]]b", "a]]", "]a", "]]a", "] ]>", "]>", "a]>", "]] >", "]]x>", ">", ">>", "a>b", "<p>", "</p>", "<!-- a -->", "<![CDATA[", "<![CDATA[a", "&lt;", "&", "-->", "--!>", "\x00", "\u00e9\u20ac", "\U0001F600", "\uff3d\uff3d>",
	}, wrongTexts...) {
		s := "<![CDATA[" + c + "]]>"
		mustAnswer(t, s, 0, true, text(c), len(s), true)
		for _, more := range []string{"]]>", ">", "x", "]", s, "\xFF"} {
			mustAnswer(t, s+more, 0, true, text(c), len(s), true)
			mustAnswer(t, "<![CDATA"+s+more, 8, true, text(c), 8+len(s), true)
		}
		left := "<![CDATA[" + c
		mustAnswer(t, left, 0, true, text(c), len(left), true)
		mustAnswer(t, "\xFF]]>"+left, 4, true, text(c), 4+len(left), true)
		mustAnswer(t, left+"]", 0, true, text(c+"]"), len(left)+1, true)
		mustAnswer(t, left+"]]", 0, true, text(c+"]]"), len(left)+2, true)
	}
	mustAnswer(t, "<![CDATA[a]]]>", 0, true, text("a]"), 14, true)
	mustAnswer(t, "<![CDATA[a]]>b]]>", 0, true, text("a"), 13, true)
	mustAnswer(t, "<![CDATA[]]]]>", 0, true, text("]]"), 14, true)
}

// P12.1: one in which nothing stands is nothing.
func TestReadOfEmptyCDATA(t *testing.T) {
	mustAnswer(t, "<![CDATA[]]>", 0, true, nothing, 12, true)
	mustAnswer(t, "<![CDATA[]]>b", 0, true, nothing, 12, true)
	mustAnswer(t, "<![CDATA[]]>]]>", 0, true, nothing, 12, true)
	mustAnswer(t, "a<![CDATA[]]>", 1, true, nothing, 13, true)
	mustAnswer(t, "<![CDATA[", 0, true, nothing, 9, true)
	mustAnswer(t, "a<![CDATA[", 1, true, nothing, 10, true)
	mustAnswer(t, "<![CDATA[]", 0, true, text("]"), 10, true)
	mustAnswer(t, "<![CDATA[]]", 0, true, text("]]"), 11, true)
	mustAnswer(t, "<![CDATA[>", 0, true, text(">"), 10, true)
}

// P12.1: without foreign, and where the beginning is not just so, it is a Comment up to the next >.
func TestReadOfCDATAThatIsNone(t *testing.T) {
	for _, c := range []string{"", "a", "]", "]]", "a]]b", "<p", "\xFF", "\u00e9"} {
		mustAnswer(t, "<![CDATA["+c+"]]>", 0, false, comm("[CDATA["+c+"]]"), 12+len(c), true)
		mustAnswer(t, "<![CDATA["+c+">]]>", 0, false, comm("[CDATA["+c), 10+len(c), true)
		mustAnswer(t, "<![CDATA["+c, 0, false, comm("[CDATA["+c), 9+len(c), true)
		for _, near := range []string{"[cdata[", "[CDATa[", "[cDATA[", "[CDATA", "[CDATA]", "CDATA[", " [CDATA[", "[ CDATA[", "[CDATA [", "[CDAT[", "[CDATAA[", "[\xC3DATA[", "{CDATA{", "[CDATA{", "[C\u0394ATA["} {
			mustWhole(t, "<!"+near+c+"]]>", comm(near+c+"]]"))
			mustLast(t, "<!"+near+c, comm(near+c))
			mustBoth(t, "<!"+near+c+">]]>", 0, comm(near+c), 3+len(near+c), true)
		}
	}
	mustWhole(t, "<?[CDATA[a]]>", comm("?[CDATA[a]]"))
	mustWhole(t, "</[CDATA[a]]>", comm("[CDATA[a]]"))
}

// P12.1: cut off at each of its places.
func TestReadOfCDATACutOff(t *testing.T) {
	mustCut(t, "<![CDATA[a]]>", true, "-", "-[", "-[C", "-[CD", "-[CDA", "-[CDAT", "-[CDATA", "?", "\"a", "\"a]", "\"a]]", "\"a")
	mustCut(t, "<![CDATA[a]]>", false, "-", "-[", "-[C", "-[CD", "-[CDA", "-[CDAT", "-[CDATA", "-[CDATA[", "-[CDATA[a", "-[CDATA[a]", "-[CDATA[a]]", "-[CDATA[a]]")
	mustCut(t, "<![CDATA[]]>", true, "-", "-[", "-[C", "-[CD", "-[CDA", "-[CDAT", "-[CDATA", "?", "\"]", "\"]]", "?")
	mustCut(t, "<![CDATA[]]>", false, "-", "-[", "-[C", "-[CD", "-[CDA", "-[CDAT", "-[CDATA", "-[CDATA[", "-[CDATA[]", "-[CDATA[]]", "-[CDATA[]]")
	mustCut(t, "<![cdata[a]]>", true, "-", "-[", "-[c", "-[cd", "-[cda", "-[cdat", "-[cdata", "-[cdata[", "-[cdata[a", "-[cdata[a]", "-[cdata[a]]", "-[cdata[a]]")
}

// texts calls f with every text of up to n of these parts.
func texts(parts []string, n int, f func(string)) {
	row := []string{""}
	for range n + 1 {
		var longer []string
		for _, s := range row {
			f(s)
			for _, p := range parts {
				longer = append(longer, s+p)
			}
		}
		row = longer
	}
}

// P12.1: every short text of these parts, at places of all sorts, against the promise's words.
func TestAgainstAPlainCall(t *testing.T) {
	for _, c := range []struct {
		ahead string
		parts []string
		n     int
	}{
		{"", []string{"<", "!", "?", "/", "-", ">", "a", " "}, 5},
		{"<!--", []string{"-", "!", ">", "a", "<"}, 7},
		{"<!--x--", []string{"-", "!", ">", "--!>", "-->", "\xFF"}, 5},
		{"<!DOCtype", []string{"A", " ", "\n", ">", "/", "\xFF", "\u00c9"}, 5},
		{"<!doc", []string{"type", "TYPE", "typ", "e", " ", ">"}, 4},
		{"<![CDATA[", []string{"]", ">", "]]>", "a", "<", "\xC3"}, 5},
		{"<![", []string{"CDATA", "cdata", "[", "]", ">"}, 5},
		{"</", []string{"a", "1", " ", "/", ">", "\xE1", "<"}, 5},
	} {
		texts(c.parts, c.n, func(s string) {
			s = c.ahead + s
			for _, at := range []int{-1, 0, 1, 2, 3, 4, len(s) - 1, len(s), len(s) + 1} {
				mustBePlain(t, s, at)
			}
			if t.Failed() {
				t.FailNow()
			}
		})
	}
}

// P12.1: every byte in every part of everything, at every place.
func TestOfEveryByteInEveryPart(t *testing.T) {
	for c := range 256 {
		b := string([]byte{byte(c)})
		for _, s := range []string{
			"<!-" + b + "a-->", "<!--" + b + "-->", "<!--" + b + ">-->", "<!---" + b + ">-->", "<!--a" + b + "b-->", "<!--a-" + b + ">-->", "<!--a--" + b + ">-->", "<!--a--!" + b + ">-->", "<!--a-" + b, "<!--a--" + b, "<!--a--!" + b, "<!--a" + b + "--", "<!--a" + b + "--!",
			"<!doctyp" + b + " a>", "<!doctype" + b + ">", "<!doctype" + b + "A>", "<!doctype " + b + "A>", "<!doctype A" + b + "B>", "<!doctype a b" + b, "<!" + b + "octype>",
			"<![CDATA" + b + "a]]>", "<![CDATA[" + b + "]]>", "<![CDATA[a]" + b + ">]]>", "<![CDATA[a]]" + b + "]]>", "<!" + b + "CDATA[a]]>", "<![CDATA[a" + b,
			"</" + b + "a>", "<?" + b + ">", "<!" + b + ">", "<" + b + "--a-->", b + "!--a-->",
		} {
			for at := -1; at <= len(s)+1; at++ {
				mustBePlain(t, s, at)
			}
		}
	}
}

// R1: long texts end, and in time: each kind of thing, with and without an end.
func TestLong(t *testing.T) {
	const n = 1 << 20
	dashes, squares, long := strings.Repeat("-", n), strings.Repeat("]", n), strings.Repeat("aB>", n)
	mustBoth(t, "<!"+dashes, 0, comm(dashes[4:]), n+2, true)
	mustBoth(t, "<!"+dashes+">", 0, comm(dashes[4:]), n+3, true)
	mustBoth(t, "<!"+dashes+"!>", 0, comm(dashes[4:]), n+4, true)
	mustBoth(t, "<!"+dashes+"!", 0, comm(dashes[4:]), n+3, true)
	mustBoth(t, "<!"+dashes+"x>", 0, comm(dashes[2:]+"x>"), n+4, true)
	mustBoth(t, "<?"+dashes, 0, comm("?"+dashes), n+2, true)
	mustBoth(t, "</"+dashes+">", 0, comm(dashes), n+3, true)
	mustAnswer(t, "<![CDATA["+squares, 0, true, text(squares), n+9, true)
	mustAnswer(t, "<![CDATA["+squares+">", 0, true, text(squares[2:]), n+10, true)
	mustAnswer(t, "<![CDATA["+squares+"x>", 0, true, text(squares+"x>"), n+11, true)
	mustAnswer(t, "<![CDATA["+squares, 0, false, comm("[CDATA["+squares), n+9, true)
	mustAnswer(t, "<![CDATA["+long, 0, true, text(long), 3*n+9, true)
	mustBoth(t, "<!--"+long, 0, comm(long), 3*n+4, true)
	mustBoth(t, "<!--"+long+"-->", 0, comm(long), 3*n+7, true)
	mustBoth(t, "<!--"+strings.Repeat("--x", n), 0, comm(strings.Repeat("--x", n)), 3*n+4, true)
	mustBoth(t, "<!--"+strings.Repeat("--!", n), 0, comm(strings.Repeat("--!", n-1)), 3*n+4, true)
	mustBoth(t, "<!--"+strings.Repeat("<!--", n), 0, comm(strings.Repeat("<!--", n)[:4*n-2]), 4*n+4, true)
	mustBoth(t, "<!doctype"+strings.Repeat(" ", n), 0, doct(""), n+9, true)
	mustBoth(t, "<!doctype"+strings.Repeat("A", n), 0, doct(strings.Repeat("a", n)), n+9, true)
	mustBoth(t, "<!doctype a"+strings.Repeat(" B", n), 0, doct("a"), 2*n+11, true)
	mustBoth(t, "<!"+squares, 0, comm(squares), n+2, true)
}

// R1: a text of many things is gone through in time: no answer looks further than its own end.
func TestMany(t *testing.T) {
	const n = 1 << 18
	for _, one := range []string{"<!-->", "<!--->", "<!---->", "<!--a--!>", "<!>", "<?a>", "</>", "</1>", "<!doctype>", "<!doctype a>", "<![CDATA[]]>", "<![CDATA[a]]>"} {
		s, at, count := strings.Repeat(one, n), 0, 0
		for ; at < len(s); count++ {
			_, next, ok := Read(s, at, true)
			if next != at+len(one) || !ok {
				t.Fatalf("%q: from %d to %d, %v", one, at, next, ok)
			}
			at = next
		}
		if count != n {
			t.Errorf("%q: %d", one, count)
		}
	}
}

// R2: texts that are answered are no piece of what was given.
func TestMemory(t *testing.T) {
	s := strings.Repeat("<!--abc--><!doctype def g><![CDATA[hij]]><!klm><?nop></1qr>", 2) + "<!--stu"
	from := uintptr(unsafe.Pointer(unsafe.StringData(s)))
	count := 0
	for at := range len(s) {
		for _, foreign := range []bool{false, true} {
			x, _, _ := Read(s, at, foreign)
			for _, text := range []string{x.Name, x.Text} {
				if text == "" {
					continue
				}
				count++
				if at := uintptr(unsafe.Pointer(unsafe.StringData(text))); at >= from && at < from+uintptr(len(s)) {
					t.Errorf("%q is a piece of what was given", text)
				}
			}
		}
	}
	if count != 26 {
		t.Errorf("%d texts", count)
	}
}

// R3, R4: beside a false, and of nothing, all is zero, and the same is answered each time.
func TestZeroOfNothing(t *testing.T) {
	for s, told := range map[string]bool{"": false, "x": false, "<": false, "</": false, "</p>": false, "<p>": false, "</>": true, "<![CDATA[]]>": true, "<![CDATA[": true} {
		for range 2 {
			x, _, ok := Read(s, 0, true)
			if ok != told || x.Kind != 0 || x.Name != "" || len(x.Attrs) != 0 || x.Self || x.Text != "" {
				t.Errorf("Read(%q): %v, %v", s, x, ok)
			}
		}
	}
	for range 3 {
		mustBoth(t, "<!--a--!>b", 0, comm("a"), 9, true)
	}
}

// R5: texts that are made of one piece of memory, so that bytes stand right behind each: they are not read.
func TestBytesBehindTheTextAreNotRead(t *testing.T) {
	for _, whole := range []string{"<!--a-->", "<!--a--!>", "<!-->", "<!--->", "<!doctype Ab c>", "<![CDATA[a]]>", "<!a>", "<?a>", "</1>", "</>", "</p>"} {
		for n := range len(whole) + 1 {
			for _, foreign := range []bool{false, true} {
				want, to, told := Read(strings.Clone(whole[:n]), 0, foreign)
				mustAnswer(t, whole[:n], 0, foreign, want, to, told)
				if to > n {
					t.Errorf("Read(%q): %d", whole[:n], to)
				}
			}
		}
	}
}
