package tag

import (
	"math"
	"regexp"
	"strconv"
	"strings"
	"testing"
	"unsafe"

	"arbour/api"
	"arbour/attrs"
	"arbour/ref"
	"arbour/token"
)

var (
	allSpaces   = []string{" ", "\t", "\n", "\f", "\r"}
	otherSpaces = []string{"\v", "\x00", "\x1C", "\x85", "\xA0", "\u00a0", "\u2003", "\u2028", "\u3000", "\ufeff"}
	oddPlaces   = []int{-1, -2, -3, math.MinInt, math.MinInt + 1, math.MinInt32, math.MaxInt, math.MaxInt - 1, math.MaxInt32, 1 << 32}
)

// list makes attributes of names and values, by turns.
func list(pairs ...string) []api.Attr {
	var l []api.Attr
	for i := 0; i < len(pairs); i += 2 {
		l = append(l, api.Attr{Name: pairs[i], Value: pairs[i+1]})
	}
	return l
}

func start(name string, pairs ...string) api.Token {
	return api.Token{Kind: api.Start, Name: name, Attrs: list(pairs...)}
}

func selfStart(name string, pairs ...string) api.Token {
	return api.Token{Kind: api.Start, Name: name, Attrs: list(pairs...), Self: true}
}

func end(name string) api.Token { return api.Token{Kind: api.End, Name: name} }

func mustAnswer(t *testing.T, s string, at int, want api.Token, to int, told bool) {
	t.Helper()
	x, next, ok := Read(s, at)
	if !token.Same(x, want) || next != to || ok != told {
		t.Errorf("Read(%.80q, %d): %.80q (%d), %d, %v, want %.80q (%d), %d, %v", s, at, token.Text(x), len(x.Attrs), next, ok, token.Text(want), len(want.Attrs), to, told)
	}
	if ok && !token.Right(x) {
		t.Errorf("Read(%.80q, %d): %.80q is not right", s, at, token.Text(x))
	}
}

// mustTag is for a tag that is the whole text: it is read with and without things ahead of it and behind it.
func mustTag(t *testing.T, s string, want api.Token) {
	t.Helper()
	mustAnswer(t, s, 0, want, len(s), true)
	mustAnswer(t, s+" a=b>", 0, want, len(s), true)
	mustAnswer(t, s+"\"'>/>", 0, want, len(s), true)
	mustAnswer(t, "<q \xFF'"+s+"x", 5, want, 5+len(s), true)
}

// mustLose is for a tag that the text's end cuts off.
func mustLose(t *testing.T, s string) {
	t.Helper()
	mustAnswer(t, s, 0, api.Token{}, len(s), false)
	mustAnswer(t, "<q>\xFF"+s, 4, api.Token{}, 4+len(s), false)
}

func mustNone(t *testing.T, s string, at int) {
	t.Helper()
	mustAnswer(t, s, at, api.Token{}, at, false)
}

func mustAttr(t *testing.T, s string, at int, name, value string, to, how int) {
	t.Helper()
	x, next, got := Attr(s, at)
	if x.Name != name || x.Value != value || next != to || got != how {
		t.Errorf("Attr(%.80q, %d): %.80q=%.80q, %d, %d, want %.80q=%.80q, %d, %d", s, at, x.Name, x.Value, next, got, name, value, to, how)
	}
}

// mustBe is for an attribute at a text's beginning: it is read further on, too.
func mustBe(t *testing.T, s, name, value string, to, how int) {
	t.Helper()
	mustAttr(t, s, 0, name, value, to, how)
	mustAttr(t, "x=\"\xFF"+s, 4, name, value, to+4, how)
}

var (
	opening   = regexp.MustCompile(`^<(/?)([a-zA-Z][^\t\n\f\r />]*)`)
	blanks    = regexp.MustCompile(`^[\t\n\f\r ]*`)
	inDoubles = regexp.MustCompile(`^((?s:.)[^\t\n\f\r />=]*)[\t\n\f\r ]*=[\t\n\f\r ]*"([^"]*)"`)
	inSingles = regexp.MustCompile(`^((?s:.)[^\t\n\f\r />=]*)[\t\n\f\r ]*=[\t\n\f\r ]*'([^']*)'`)
	bare      = regexp.MustCompile(`^((?s:.)[^\t\n\f\r />=]*)[\t\n\f\r ]*=[\t\n\f\r ]*([^\t\n\f\r >"'][^\t\n\f\r >]*)[\t\n\f\r >]`)
	atTheEnd  = regexp.MustCompile(`^((?s:.)[^\t\n\f\r />=]*)[\t\n\f\r ]*=[\t\n\f\r ]*>`)
	unequal   = regexp.MustCompile(`^((?s:.)[^\t\n\f\r />=]*)[\t\n\f\r ]*=`)
	nameAlone = regexp.MustCompile(`^((?s:.)[^\t\n\f\r />=]*)([\t\n\f\r ]*)`)
)

func plainLower(s string) string {
	out := ""
	for i := range len(s) {
		if c := s[i]; c >= 'A' && c <= 'Z' {
			out += strings.ToLower(s[i : i+1])
		} else {
			out += s[i : i+1]
		}
	}
	return out
}

// plainAttr reads by the promise's words, one form of an attribute after the other.
func plainAttr(s string, at int) (api.Attr, int, int) {
	none := func() (api.Attr, int, int) { return api.Attr{}, len(s), 0 }
	if at < 0 || at >= len(s) {
		return none()
	}
	s0 := s[at:]
	for _, form := range []*regexp.Regexp{inDoubles, inSingles} {
		if m := form.FindStringSubmatch(s0); m != nil {
			return api.Attr{Name: plainLower(m[1]), Value: ref.All(m[2], true)}, at + len(m[0]), 1
		}
	}
	if m := bare.FindStringSubmatch(s0); m != nil {
		return api.Attr{Name: plainLower(m[1]), Value: ref.All(m[2], true)}, at + len(m[0]) - 1, 1
	}
	if m := atTheEnd.FindStringSubmatch(s0); m != nil {
		return api.Attr{Name: plainLower(m[1])}, at + len(m[0]), 2
	}
	m := nameAlone.FindStringSubmatch(s0)
	if unequal.MatchString(s0) || len(m[1]) == len(s0) {
		return none()
	}
	return api.Attr{Name: plainLower(m[1])}, at + len(m[0]), 1
}

// plainRead reads by the promise's words; attributes are Added one by one.
func plainRead(s string, at int) (api.Token, int, bool) {
	if at < 0 || at > len(s) {
		return api.Token{}, at, false
	}
	m := opening.FindStringSubmatch(s[at:])
	if m == nil {
		return api.Token{}, at, false
	}
	x := api.Token{Kind: api.Start, Name: plainLower(m[2])}
	for at += len(m[0]); ; {
		at += len(blanks.FindString(s[at:]))
		how, a := 1, api.Attr{}
		switch {
		case at == len(s):
			return api.Token{}, len(s), false
		case strings.HasPrefix(s[at:], ">"):
			at, how = at+1, 2
		case strings.HasPrefix(s[at:], "/>"):
			at, how, x.Self = at+2, 2, true
		case strings.HasPrefix(s[at:], "/"):
			at++
		default:
			a, at, how = plainAttr(s, at)
			x.Attrs = attrs.Add(x.Attrs, a)
		}
		if how == 0 {
			return api.Token{}, len(s), false
		}
		if how == 2 && m[1] == "/" {
			return end(x.Name), at, true
		}
		if how == 2 {
			return x, at, true
		}
	}
}

func TestRunOfTheChapter(t *testing.T) {
	mustAnswer(t, "<A b=1 B=2 c/>x", 0, selfStart("a", "b", "1", "c", ""), 14, true)
}

func TestExamplesOfTheChapter(t *testing.T) {
	mustAnswer(t, "</p x>", 0, end("p"), 6, true)
	mustAnswer(t, "<p", 0, api.Token{}, 2, false)
}

// P11.1: nothing that begins as a tag does: zero, and the place as it was given.
func TestReadWhereNoneStands(t *testing.T) {
	for _, s := range []string{
		"", "a", "p>", "/p>", ">", "/", " <p>", "\n<p>", "x<p>", "&lt;p>", "\x00<p>", "\xFF<p>", "\uff1cp>",
		"<", "</", "<>", "</>", "<<", "<<p>", "</<p>", "<//p>", "</ p>", "< p>", "<\tp>", "<\n/p>", "</\fp>", "< /p>", "<\r>",
		"<1>", "<0p>", "</1>", "</9p>", "<!p>", "<!--p-->", "<?p>", "<=p>", "<-p>", "<_p>", "<&p>", "<\"p\">", "<'p'>", "<@>", "<[>", "<`>", "<{>", "</@>", "</[>", "</`>", "</{>", "</!p>", "</?p>",
		"<\x00p>", "</\x00p>", "<\u00e9>", "</\u00e9>", "<\uff41>", "<\u0430>", "<\u017f>", "<\u212a>", "<\xE1>", "<\xC1p>", "</\xFA>", "<\x80p>", "<\xFFp>", "</\xFFp>",
	} {
		mustNone(t, s, 0)
		mustNone(t, "<q>"+s, 3)
		for _, at := range append([]int{len(s), len(s) + 1, len(s) + 2}, oddPlaces...) {
			mustNone(t, s, at)
		}
		for _, at := range oddPlaces {
			mustNone(t, "<p>"+s+"<p>", at)
		}
	}
}

// P11.1: every byte behind < and behind </: Letters alone begin a name.
func TestReadOfEveryFirstByte(t *testing.T) {
	for c := range 256 {
		b := string([]byte{byte(c)})
		switch {
		case c >= 'a' && c <= 'z':
			mustTag(t, "<"+b+">", start(b))
			mustTag(t, "</"+b+">", end(b))
		case c >= 'A' && c <= 'Z':
			mustTag(t, "<"+b+">", start(string(rune(c+32))))
			mustTag(t, "</"+b+">", end(string(rune(c+32))))
		case c == '/':
			mustNone(t, "<//p>", 0)
			mustNone(t, "<//>", 0)
		default:
			mustNone(t, "<"+b+">", 0)
			mustNone(t, "<"+b+"p>", 0)
			mustNone(t, "</"+b+">", 0)
			mustNone(t, "</"+b+"p>", 0)
		}
	}
}

// P11.1: at each place of a text by itself.
func TestReadAtPlaces(t *testing.T) {
	const s = "x<p><</a b>< c><i a=<b>"
	for at := -2; at <= len(s)+2; at++ {
		switch at {
		case 1:
			mustAnswer(t, s, at, start("p"), 4, true)
		case 5:
			mustAnswer(t, s, at, end("a"), 11, true)
		case 15:
			mustAnswer(t, s, at, start("i", "a", "<b"), len(s), true)
		case 20:
			mustAnswer(t, s, at, start("b"), len(s), true)
		default:
			mustNone(t, s, at)
		}
	}
	for _, at := range oddPlaces {
		mustNone(t, "<p>", at)
		mustNone(t, "</p>", at)
	}
}

// P11.1: names: capitals, and signs that may stand behind the first one.
func TestReadOfNames(t *testing.T) {
	for _, c := range [][2]string{
		{"p", "p"}, {"P", "p"}, {"h1", "h1"}, {"DIV", "div"}, {"dIv", "div"}, {"foreignObject", "foreignobject"}, {"AZaz", "azaz"}, {"x-Y", "x-y"}, {"a:B", "a:b"}, {"a.b", "a.b"},
		{"p<q", "p<q"}, {"p<", "p<"}, {"a=b", "a=b"}, {"a=", "a="}, {"a\"b", "a\"b"}, {"a'B'", "a'b'"}, {"a&lt;b", "a&lt;b"}, {"a&AMP", "a&amp"}, {"a!--", "a!--"},
		{"a\x00", "a\x00"}, {"a\v", "a\v"}, {"a\x7F", "a\x7F"}, {"a\u00c9", "a\u00c9"}, {"A\u212aB", "a\u212ab"}, {"a\u0130", "a\u0130"}, {"a\uff21", "a\uff21"}, {"a\u00a0b", "a\u00a0b"}, {"a\U0001F600Z", "a\U0001F600z"},
		{"a\xFF", "a\xFF"}, {"A\xC3", "a\xC3"}, {"a\xC1B", "a\xC1b"}, {"a\xE2\x82A", "a\xE2\x82a"}, {"a\x80\xED\xA0\x80", "a\x80\xED\xA0\x80"}, {"a\x85\xA0", "a\x85\xA0"},
	} {
		mustTag(t, "<"+c[0]+">", start(c[1]))
		mustTag(t, "</"+c[0]+">", end(c[1]))
		mustTag(t, "<"+c[0]+"/>", selfStart(c[1]))
		mustTag(t, "</"+c[0]+"/>", end(c[1]))
		mustLose(t, "<"+c[0])
		mustLose(t, "</"+c[0])
		mustLose(t, "<"+c[0]+"/")
		mustLose(t, "</"+c[0]+"/")
		for _, space := range allSpaces {
			mustTag(t, "<"+c[0]+space+"A>", start(c[1], "a", ""))
			mustTag(t, "</"+c[0]+space+"A>", end(c[1]))
			mustLose(t, "<"+c[0]+space)
			mustLose(t, "</"+c[0]+space)
		}
	}
}

// P11.1: which bytes end a tag's name: Spaces, / and > alone.
func TestReadOfEveryByteInAName(t *testing.T) {
	for c := range 256 {
		b := string([]byte{byte(c)})
		want := start("p"+plainLower(b)+"q", "r", "")
		switch b {
		case " ", "\t", "\n", "\f", "\r", "/":
			want = start("p", "q", "", "r", "")
		case ">":
			mustAnswer(t, "<p>q r>", 0, start("p"), 3, true)
			continue
		}
		mustTag(t, "<p"+b+"q r>", want)
		mustTag(t, "</p"+b+"q r>", end(want.Name))
	}
}

// P11.1: the end of a tag, with things ahead of it: / by itself is passed by, right ahead of > alone it says Self.
func TestReadOfEnds(t *testing.T) {
	spaces := append([]string{"", "  ", "\r\n", " \t\n\f\r ", "\f\f\f"}, allSpaces...)
	for _, one := range spaces {
		for _, two := range spaces {
			mustTag(t, "<p"+one+">", start("p"))
			mustTag(t, "<p"+one+"/>", selfStart("p"))
			mustTag(t, "<p"+one+"/"+two+"/>", selfStart("p"))
			mustTag(t, "<p"+one+"//"+two+"//>", selfStart("p"))
			mustTag(t, "</p"+one+"/"+two+">", end("p"))
			mustTag(t, "</p"+one+"/"+two+"/>", end("p"))
			mustTag(t, "<p"+one+"/"+two+"a>", start("p", "a", ""))
			mustTag(t, "<p/"+one+"a/"+two+"/>", selfStart("p", "a", ""))
			mustTag(t, "<p a"+one+"/>", selfStart("p", "a", ""))
			mustTag(t, "<p a=''"+one+"/>", selfStart("p", "a", ""))
			mustTag(t, "<p a"+one+"/"+two+"b>", start("p", "a", "", "b", ""))
			mustTag(t, "<p a"+one+"="+two+">", start("p", "a", ""))
			if two != "" {
				mustTag(t, "<p"+one+"/"+two+">", start("p"))
				mustTag(t, "<p"+one+"//"+two+">", start("p"))
				mustTag(t, "<p a"+one+"/"+two+">", start("p", "a", ""))
				mustTag(t, "<p a=x"+two+"/>", selfStart("p", "a", "x"))
				mustTag(t, "<p a=x"+two+"/"+two+">", start("p", "a", "x"))
			}
			mustLose(t, "<p"+one)
			mustLose(t, "<p"+one+"/"+two)
			mustLose(t, "</p"+one+"/"+two)
			mustLose(t, "<p"+one+"//"+two)
			mustLose(t, "<p a"+one+"/"+two)
		}
	}
	for _, s := range otherSpaces {
		mustTag(t, "<p/"+s+">", start("p", s, ""))
		mustTag(t, "<p "+s+"/>", selfStart("p", s, ""))
	}
}

// P11.1: Self is told where / stands right ahead of > and belongs to no value.
func TestReadOfSelf(t *testing.T) {
	mustTag(t, "<br/>", selfStart("br"))
	mustTag(t, "<p a=b/>", start("p", "a", "b/"))
	mustTag(t, "<p a=b />", selfStart("p", "a", "b"))
	mustTag(t, "<p a=b/ />", selfStart("p", "a", "b/"))
	mustTag(t, "<p a='b'/>", selfStart("p", "a", "b"))
	mustTag(t, "<p a=\"b\"/>", selfStart("p", "a", "b"))
	mustTag(t, "<p a='/'>", start("p", "a", "/"))
	mustTag(t, "<p a=/>", start("p", "a", "/"))
	mustTag(t, "<p a= />", start("p", "a", "/"))
	mustTag(t, "<p a =/>", start("p", "a", "/"))
	mustTag(t, "<p a=//>", start("p", "a", "//"))
	mustTag(t, "<p =/>", selfStart("p", "=", ""))
	mustTag(t, "<p ==/>", start("p", "=", "/"))
	mustTag(t, "<p a/=>", start("p", "a", "", "=", ""))
	mustTag(t, "<p/=/>", selfStart("p", "=", ""))
	mustTag(t, "<p/a/>", selfStart("p", "a", ""))
	mustTag(t, "<p/ a / b / >", start("p", "a", "", "b", ""))
	mustTag(t, "<p//a//b>", start("p", "a", "", "b", ""))
	mustTag(t, "<p / / / >", start("p"))
	mustAnswer(t, "<p/>/>", 0, selfStart("p"), 4, true)
	mustAnswer(t, "<p>/>", 0, start("p"), 3, true)
}

// P11.1: attributes and /> of an End are read, for its place, and not told.
func TestReadOfEndsOfElements(t *testing.T) {
	for _, s := range []string{
		"</p>", "</P>", "</p >", "</p/>", "</p />", "</p / >", "</p x>", "</p x/>", "</p x=1>", "</p x=1 y='2' z=\"3\">", "</p x='>'>", "</p x=\">\" / >", "</p x=>", "</p x= >", "</p =>", "</p x x X>", "</p\n\tx\f=\ry >", "</p a=/>", "</p &lt;=&lt;>", "</p </p>",
	} {
		mustTag(t, s, end("p"))
	}
	for _, s := range []string{"</p", "</p ", "</p/", "</p x", "</p x ", "</p x=", "</p x= ", "</p x=1", "</p x='", "</p x='>", "</p x=\">", "</p x='1'", "</p x x=\"'>"} {
		mustLose(t, s)
	}
	x, _, _ := Read("</p a=1 b />", 0)
	if len(x.Attrs) != 0 || x.Self || x.Text != "" {
		t.Errorf("an End with %v, %v, %q", x.Attrs, x.Self, x.Text)
	}
}

// P11.1: ahead of the first Letter no tag stands there, behind it the tag is lost, wherever it is cut off.
func TestReadOfTagsCutOff(t *testing.T) {
	for _, s := range []string{
		"<Ab c=1 D='x>y' e = \"/>\" f g=>", "</Ab c=1 D='x>y' e = \"/>\" f g=h/>", "<a/b//c / d=e/ f = '' / >", "<p\u00e9 \xFF=\xFE 'a' \"b\"=c'>", "</a\t\n\f\r =a==b=>", "<a b=&lt c='&lt;' d=&ltx/ >", "<a =>", "<a a a=2 A='3' />",
	} {
		letter := strings.IndexAny(s, "aAp")
		for n := range len(s) {
			if n <= letter {
				mustNone(t, s[:n], 0)
				mustNone(t, "<q>"+s[:n], 3)
				continue
			}
			mustLose(t, s[:n])
		}
		if _, next, ok := Read(s, 0); next != len(s) || !ok {
			t.Errorf("Read(%q): %d, %v", s, next, ok)
		}
	}
}

// P11.1: the first of each name, as Lower, in order.
func TestReadOfAttributes(t *testing.T) {
	mustTag(t, "<p a>", start("p", "a", ""))
	mustTag(t, "<p b a>", start("p", "b", "", "a", ""))
	mustTag(t, "<p a=1 b=2 c=3>", start("p", "a", "1", "b", "2", "c", "3"))
	mustTag(t, "<p c=1 b=2 a=3>", start("p", "c", "1", "b", "2", "a", "3"))
	mustTag(t, "<p a=1 a=2>", start("p", "a", "1"))
	mustTag(t, "<p a=1 A=2 a=3 b=4>", start("p", "a", "1", "b", "4"))
	mustTag(t, "<p A a=2>", start("p", "a", ""))
	mustTag(t, "<p a='' a=2 />", selfStart("p", "a", ""))
	mustTag(t, "<p a=1 b a=2 b=3 c a>", start("p", "a", "1", "b", "", "c", ""))
	mustTag(t, "<p a=1 a=>", start("p", "a", "1"))
	mustTag(t, "<p a= b=>", start("p", "a", "b="))
	mustTag(t, "<p a=1 b=>", start("p", "a", "1", "b", ""))
	mustTag(t, "<p b=\t\n>", start("p", "b", ""))
	mustTag(t, "<p a='x'b=\"y\"c>", start("p", "a", "x", "b", "y", "c", ""))
	mustTag(t, "<p a='x''y'>", start("p", "a", "x", "'y'", ""))
	mustTag(t, "<p 'a' \"b\" <c>", start("p", "'a'", "", "\"b\"", "", "<c", ""))
	mustTag(t, "<p a\u00c9=1 a\u00e9=2>", start("p", "a\u00c9", "1", "a\u00e9", "2"))
	mustTag(t, "<p \xFF=\xFE \xFF=2 \xFE>", start("p", "\xFF", "\xFE", "\xFE", ""))
	mustTag(t, "<p \x00>", start("p", "\x00", ""))
	mustTag(t, "<svg viewBox='0 0 1 1' xlink:HREF=#a>", start("svg", "viewbox", "0 0 1 1", "xlink:href", "#a"))
	mustTag(t, "<a href=?a=1&copy=2&lt;>", start("a", "href", "?a=1&copy=2<"))
	mustTag(t, "<a &lt;=1 &LT=2>", start("a", "&lt;", "1", "&lt", "2"))
	mustTag(t, "<p =a=b =>", start("p", "=a", "b", "=", ""))
	mustTag(t, "<p = a==>", start("p", "=", "", "a", "="))
	mustTag(t, "<p a = b = c>", start("p", "a", "b", "=", "", "c", ""))
	mustTag(t, "<p a='>\n<q>'>", start("p", "a", ">\n<q>"))
	mustTag(t, "<p a=<q>", start("p", "a", "<q"))
	mustLose(t, "<p a='>' b=\">")
	mustLose(t, "<p a=1 b='2 c=3></p>")
}

// P11.2: the name, up to a Space, / , > or =, wherever it begins.
func TestAttrOfNames(t *testing.T) {
	for _, c := range [][2]string{
		{"a", "a"}, {"A", "a"}, {"AbZ", "abz"}, {"data-X", "data-x"}, {"x:Y", "x:y"}, {"1", "1"}, {"@A", "@a"}, {"(b)", "(b)"}, {"=", "="}, {"=A", "=a"}, {"'", "'"}, {"\"", "\""}, {"'A'", "'a'"}, {"a'b\"", "a'b\""}, {"<", "<"}, {"a<B", "a<b"}, {"</", "<"}, {"&amp;", "&amp;"}, {"&LT", "&lt"}, {"&", "&"},
		{"\x00", "\x00"}, {"\v", "\v"}, {"\u00c9", "\u00c9"}, {"\u212aK", "\u212ak"}, {"\uff1d", "\uff1d"}, {"\u00a0", "\u00a0"}, {"\U0001F600", "\U0001F600"}, {"\xFF", "\xFF"}, {"A\xC3", "a\xC3"}, {"\x80A", "\x80a"}, {"\xE2\x82", "\xE2\x82"}, {"\x85\xA0", "\x85\xA0"}, {"\xBD", "\xBD"},
	} {
		s := strings.TrimSuffix(c[0], "/")
		n := len(s)
		mustBe(t, s+">", c[1], "", n, 1)
		mustBe(t, s+"/", c[1], "", n, 1)
		mustBe(t, s+"/>", c[1], "", n, 1)
		mustBe(t, s+"=x>", c[1], "x", n+2, 1)
		mustBe(t, s+"='x'", c[1], "x", n+4, 1)
		mustBe(t, s+"=>", c[1], "", n+2, 2)
		mustBe(t, s, "", "", n, 0)
		for _, space := range allSpaces {
			mustBe(t, s+space, c[1], "", n+1, 1)
			mustBe(t, s+space+"b", c[1], "", n+1, 1)
			mustBe(t, s+space+"=x>", c[1], "x", n+3, 1)
			mustBe(t, s+space+"/=x>", c[1], "", n+1, 1)
		}
	}
	mustBe(t, "==>", "=", "", 3, 2)
	mustBe(t, "==c>", "=", "c", 3, 1)
	mustBe(t, "===>", "=", "=", 3, 1)
	mustBe(t, "=a==b ", "=a", "=b", 5, 1)
	mustBe(t, "=", "", "", 1, 0)
	mustBe(t, "==", "", "", 2, 0)
	mustBe(t, "= = x>", "=", "x", 5, 1)
}

// P11.2: every byte behind a name: those that end it, and no others.
func TestAttrOfEveryByteInAName(t *testing.T) {
	for c := range 256 {
		b := string([]byte{byte(c)})
		switch b {
		case " ", "\t", "\n", "\f", "\r":
			mustBe(t, "a"+b+"b>", "a", "", 2, 1)
		case "/", ">":
			mustBe(t, "a"+b+"b>", "a", "", 1, 1)
		case "=":
			mustBe(t, "a"+b+"b>", "a", "b", 3, 1)
		default:
			mustBe(t, "a"+b+"b>", "a"+plainLower(b)+"b", "", 3, 1)
			mustBe(t, "a"+b, "", "", 2, 0)
		}
	}
}

// P11.2: the place behind a name without = is where the Spaces behind it ended.
func TestAttrWithoutAValue(t *testing.T) {
	mustBe(t, "a>", "a", "", 1, 1)
	mustBe(t, "a >", "a", "", 2, 1)
	mustBe(t, "a   ", "a", "", 4, 1)
	mustBe(t, "a \t\n\f\r b=1>", "a", "", 7, 1)
	mustBe(t, "a/>", "a", "", 1, 1)
	mustBe(t, "a  /=1>", "a", "", 3, 1)
	mustBe(t, "a  >=1>", "a", "", 3, 1)
	mustBe(t, "a 'x'>", "a", "", 2, 1)
	mustBe(t, "a \"", "a", "", 2, 1)
	mustBe(t, "a \xFF", "a", "", 2, 1)
	mustBe(t, "a \v=1>", "a", "", 2, 1)
}

// P11.2: Spaces ahead of the = and behind it, of every kind.
func TestAttrOfSpacesAtTheEqualsSign(t *testing.T) {
	spaces := append([]string{"", "  ", "\r\n", " \t\n\f\r "}, allSpaces...)
	for _, one := range spaces {
		for _, two := range spaces {
			s := "A" + one + "=" + two
			mustBe(t, s+"B>", "a", "B", len(s)+1, 1)
			mustBe(t, s+"B c>", "a", "B", len(s)+1, 1)
			mustBe(t, s+"'B' c>", "a", "B", len(s)+3, 1)
			mustBe(t, s+"\" B \"", "a", " B ", len(s)+5, 1)
			mustBe(t, s+"''", "a", "", len(s)+2, 1)
			mustBe(t, s+">", "a", "", len(s)+1, 2)
			mustBe(t, s+">>", "a", "", len(s)+1, 2)
			mustBe(t, s+"=>", "a", "=", len(s)+1, 1)
			mustBe(t, s+"/>", "a", "/", len(s)+1, 1)
			mustBe(t, s, "", "", len(s), 0)
			mustBe(t, s+"B", "", "", len(s)+1, 0)
			mustBe(t, s+"'B", "", "", len(s)+2, 0)
			mustBe(t, s+"\"", "", "", len(s)+1, 0)
		}
	}
	for _, other := range otherSpaces {
		mustBe(t, "a="+other+"b>", "a", other+"b", 3+len(other), 1)
		mustBe(t, "a=b"+other+">", "a", "b"+other, 3+len(other), 1)
		mustBe(t, "a"+other+"=b>", "a"+other, "b", 3+len(other), 1)
	}
}

// P11.2: values in quotes run to the next such quote, whatever stands between.
func TestAttrOfValuesInQuotes(t *testing.T) {
	for _, q := range []string{"\"", "'"} {
		other := map[string]string{"\"": "'", "'": "\""}[q]
		for _, v := range []string{
			"", "x", "X", "aB c", " ", "\t\n\f\r ", ">", "/>", "</p>", "a=b", "=", "/", other, other + other, "a" + other + "b", "&", "&&", "#", "<!-- -->", "\x00", "\u00e9\u20ac", "\U0001F600", "\uff02", "\xFF", "\xC3", "\xE2\x82", "a\x80b", "\xED\xA0\x80", "\u00a0",
		} {
			s := "n=" + q + v + q
			for _, more := range []string{"", ">", " ", "/>", "x", "=", q, other, "\xA7", ">" + q} {
				mustBe(t, s+more, "n", v, len(s), 1)
			}
			for _, more := range []string{"", ">", " b>", other, "/>"} {
				mustBe(t, "n="+q+v+more, "", "", 3+len(v+more), 0)
			}
		}
	}
}

// P11.2: bare values run to the next Space or >, and are lost at the text's end.
func TestAttrOfBareValues(t *testing.T) {
	for _, v := range []string{
		"x", "X", "aBc", "1", "=", "==", "a=b", "/", "//", "a/", "/a", "a/b/", "a'", "a\"", "a'b'", "a\"b\"c", "<", "a<b", "`", "`a`", "&", "a&b", "#", "\x00", "\v", "\u00e9\u20ac", "\u00a0", "\uff02", "\xFF", "\xC3", "\xE2\x82", "a\x80b", "\x85", "\xA0\xBE",
	} {
		s := "n=" + v
		for _, more := range append([]string{">", ">>", "> ", " /", " =", " '", ">\xFF"}, allSpaces...) {
			mustBe(t, s+more, "n", v, len(s), 1)
		}
		mustBe(t, s, "", "", len(s), 0)
		mustBe(t, s+"/", "", "", len(s)+1, 0)
	}
	for c := range 256 {
		b := string([]byte{byte(c)})
		switch b {
		case " ", "\t", "\n", "\f", "\r", ">":
			mustBe(t, "n=a"+b+"z>", "n", "a", 3, 1)
		default:
			mustBe(t, "n=a"+b+"z>", "n", "a"+b+"z", 5, 1)
		}
	}
}

// P11.2: references in values are read as an attribute's, in names they are not.
func TestAttrOfReferences(t *testing.T) {
	for _, c := range [][2]string{
		{"&amp;", "&"}, {"&amp", "&"}, {"&lt;&gt;", "<>"}, {"&quot;", "\""}, {"&apos;", "'"}, {"&#34;", "\""}, {"&#39;", "'"}, {"&#x3e;", ">"}, {"&#62", ">"}, {"&#32;", " "}, {"&#65;&#x42;", "AB"}, {"&#0;", "\uFFFD"}, {"&NotEqualTilde;", "\u2242\u0338"},
		{"&ampx", "&ampx"}, {"&amp=1", "&amp=1"}, {"&copy=2", "&copy=2"}, {"&copy1", "&copy1"}, {"&copy;=2", "\u00A9=2"}, {"&notit;", "&notit;"}, {"&notin;", "\u2209"}, {"&not-", "\u00AC-"}, {"?a=1&lt=2&gt;", "?a=1&lt=2>"},
		{"&amp;lt;", "&lt;"}, {"&", "&"}, {"&;", "&;"}, {"&#", "&#"}, {"&#x", "&#x"}, {"&nix;", "&nix;"}, {"&lt\xFF", "<\xFF"},
	} {
		mustBe(t, "N='"+c[0]+"'", "n", c[1], 4+len(c[0]), 1)
		mustBe(t, "N=\""+c[0]+"\"", "n", c[1], 4+len(c[0]), 1)
		mustBe(t, "N="+c[0]+">", "n", c[1], 2+len(c[0]), 1)
		mustBe(t, "N="+c[0]+" x", "n", c[1], 2+len(c[0]), 1)
	}
	// What stands behind a value is none of it: the name of a reference ends there.
	mustBe(t, "n='&lt'x", "n", "<", 7, 1)
	mustBe(t, "n='&lt'=", "n", "<", 7, 1)
	mustBe(t, "n=\"&#6\"5;", "n", "\x06", 7, 1)
	mustBe(t, "n=&lt >", "n", "<", 5, 1)
	mustBe(t, "n=&lt>;", "n", "<", 5, 1)
	mustBe(t, "&lt;=1>", "&lt;", "1", 6, 1)
	mustBe(t, "&lt=1>", "&lt", "1", 5, 1)
	mustBe(t, "&#65;>", "&#65;", "", 5, 1)
}

// P11.2: the three answers, and the places beside them.
func TestAttrAnswers(t *testing.T) {
	const s = "<p A b=1 c='2'd=>x"
	mustAttr(t, s, 3, "a", "", 5, 1)
	mustAttr(t, s, 5, "b", "1", 8, 1)
	mustAttr(t, s, 9, "c", "2", 14, 1)
	mustAttr(t, s, 14, "d", "", 17, 2)
	mustAttr(t, s, 17, "", "", 18, 0)
	mustAttr(t, s[:17], 14, "d", "", 17, 2)
	mustAttr(t, s[:16], 14, "", "", 16, 0)
	mustAttr(t, s[:15], 14, "", "", 15, 0)
	mustAttr(t, s[:13], 9, "", "", 13, 0)
	mustAttr(t, s[:12], 9, "", "", 12, 0)
	mustAttr(t, s[:8], 5, "", "", 8, 0)
	mustAttr(t, s[:7], 5, "", "", 7, 0)
	mustAttr(t, s[:5], 3, "a", "", 5, 1)
	mustAttr(t, s[:4], 3, "", "", 4, 0)
}

// R1: places where no attribute stands: none is told, and nothing panics.
func TestAttrAtOddPlaces(t *testing.T) {
	for _, s := range []string{"", "a", "a=1>", "='x'>", "\xFF", " ", ">"} {
		for _, at := range append([]int{len(s), len(s) + 1}, oddPlaces...) {
			mustAttr(t, s, at, "", "", len(s), 0)
		}
	}
	// Where a Read would not ask: it goes on all the same, and stays within the text.
	for _, s := range []string{" ", ">", "/", "/>", " a=1>", ">a=1>", "/a='1'", "\n=>", "/ = ", "> >"} {
		if _, next, how := Attr(s, 0); next < 1 || next > len(s) || how < 0 || how > 2 {
			t.Errorf("Attr(%q): %d, %d", s, next, how)
		}
	}
}

// texts calls f with every text of up to n of these parts.
func texts(parts []string, n int, f func(string)) {
	row := []string{""}
	for range n + 1 {
		var longer []string
		for _, s := range row {
			f(s)
			for _, p := range parts {
				longer = append(longer, s+p)
			}
		}
		row = longer
	}
}

// P11.1, P11.2: every short text of these parts, at every place, against the promise's words.
func TestAgainstPlainCalls(t *testing.T) {
	for _, c := range []struct {
		ahead string
		parts []string
		n     int
	}{
		{"", []string{"<", "/", ">", "a", "B", " ", "=", "'"}, 5},
		{"<a ", []string{"b", "B", "=", "\"", "'", " ", "/", ">"}, 5},
		{"</A", []string{"b", "=", "'", "\n", "/", ">"}, 5},
		{"<a b=", []string{"&lt", "&copy;", "x", "=", "\"", "\t", ">"}, 5},
		{"<\xFF<Z\xFF", []string{"\xC3", "\u00e9", "=", "'", "\f", "/", ">", "\x00"}, 4},
	} {
		texts(c.parts, c.n, func(s string) {
			s = c.ahead + s
			for at := -1; at <= len(s)+1; at++ {
				want, to, told := plainRead(s, at)
				mustAnswer(t, s, at, want, to, told)
			}
			for at := max(0, len(c.ahead)-2); at < len(s); at++ {
				if strings.ContainsAny(s[at:at+1], "\t\n\f\r />") {
					continue
				}
				want, to, how := plainAttr(s, at)
				mustAttr(t, s, at, want.Name, want.Value, to, how)
			}
			if t.Failed() {
				t.FailNow()
			}
		})
	}
}

// P11.1: what Read tells is right (P8.1), of every byte in every part of a tag.
func TestReadTellsRightTokens(t *testing.T) {
	for c := range 256 {
		b := string([]byte{byte(c)})
		for _, s := range []string{"<a" + b + ">", "<a " + b + " B=c>", "<a b" + b + "=c>", "<a b=" + b + "c d>", "<a b" + b + "b=c" + b + ">", "</a" + b + "b c=d/>", "<a b='" + b + "'" + b + " />", "<a" + b + "b" + b + "c" + b + "=>", "<a b=1 b" + b + "=2>"} {
			for at := range len(s) {
				want, to, told := plainRead(s, at)
				mustAnswer(t, s, at, want, to, told)
			}
		}
	}
}

// R1: long tags end, and in time: of many names, of one name, of one long part.
func TestLong(t *testing.T) {
	const n = 1 << 18
	var all strings.Builder
	var want []api.Attr
	for i := range n {
		name := "a" + strconv.Itoa(i)
		all.WriteString(" " + strings.ToUpper(name) + "=" + name)
		want = append(want, api.Attr{Name: name, Value: name})
	}
	many := all.String()
	mustAnswer(t, "<p"+many+">", 0, api.Token{Kind: api.Start, Name: "p", Attrs: want}, len(many)+3, true)
	mustAnswer(t, "<p"+many+many+" />", 0, api.Token{Kind: api.Start, Name: "p", Attrs: want, Self: true}, 2*len(many)+5, true)
	mustAnswer(t, "</p"+many+">", 0, end("p"), len(many)+4, true)
	mustAnswer(t, "<p"+many, 0, api.Token{}, len(many)+2, false)
	long := strings.Repeat("x", 4*n)
	for _, c := range []struct {
		s    string
		want api.Token
	}{
		{"<p" + strings.Repeat(" a=1", n) + ">", start("p", "a", "1")},
		{"<p " + strings.Repeat("a='1'", n) + "/>", selfStart("p", "a", "1")},
		{"<p " + strings.Repeat("a=\">\"", n) + ">", start("p", "a", ">")},
		{"<p" + strings.Repeat("/", 4*n) + ">", selfStart("p")},
		{"<p" + strings.Repeat("/ ", 4*n) + ">", start("p")},
		{"<p" + strings.Repeat("/=", 4*n) + "=>", start("p", "=", "")},
		{"<p " + strings.Repeat("=", 4*n) + ">", start("p", "=", strings.Repeat("=", 4*n-2))},
		{"<p" + strings.Repeat(" ", 4*n) + "a" + strings.Repeat("\n", 4*n) + "=" + strings.Repeat("\t", 4*n) + ">", start("p", "a", "")},
		{"<" + strings.ToUpper(long) + " " + strings.ToUpper(long) + "='" + long + "'>", start(long, long, long)},
		{"<p a=" + strings.Repeat("&lt;", n) + ">", start("p", "a", strings.Repeat("<", n))},
		{"<p" + strings.Repeat("<", 4*n) + ">", start("p" + strings.Repeat("<", 4*n))},
	} {
		mustAnswer(t, c.s, 0, c.want, len(c.s), true)
	}
	for _, s := range []string{"<p" + long, "<p " + long, "<p a=" + long, "<p a='" + long, "<p" + strings.Repeat(" ", 4*n), "<p" + strings.Repeat("/", 4*n), "<p" + strings.Repeat(" a", n), "<p" + strings.Repeat(" a='\"'", n)} {
		mustAnswer(t, s, 0, api.Token{}, len(s), false)
	}
}

// R2: texts that are answered are no piece of what was given, and an answer's list is its own.
func TestMemory(t *testing.T) {
	s := strings.Repeat("<pq abc=def ghi='jkl' m n=&notx>", 2)
	from := uintptr(unsafe.Pointer(unsafe.StringData(s)))
	var answers []string
	for at := range len(s) {
		x, _, _ := Read(s, at)
		a, _, _ := Attr(s, at)
		answers = append(answers, x.Name, x.Text, a.Name, a.Value)
		for _, a := range x.Attrs {
			answers = append(answers, a.Name, a.Value)
		}
	}
	for _, text := range answers {
		if at := uintptr(unsafe.Pointer(unsafe.StringData(text))); text != "" && at >= from && at < from+uintptr(len(s)) {
			t.Errorf("%q is a piece of what was given", text)
		}
	}
	one, _, _ := Read(s, 0)
	two, _, _ := Read(s, 0)
	one.Attrs[0].Value = "other"
	one.Attrs = append(one.Attrs, api.Attr{Name: "z"})
	if again, _, _ := Read(s, 0); !token.Same(two, again) || two.Attrs[0].Value != "def" {
		t.Errorf("%v, %v: what was done to one answer is seen in another", two, again)
	}
}

// R3, R4: beside a false and a 0 all is zero, and the same is answered each time.
func TestZeroBesideFalse(t *testing.T) {
	for _, s := range []string{"<p a=1 b='2' c", "</p a=1", "<p/", "<p a='", "x", "", "<1 a>"} {
		for range 2 {
			x, _, ok := Read(s, 0)
			if ok || x.Kind != 0 || x.Name != "" || len(x.Attrs) != 0 || x.Self || x.Text != "" {
				t.Errorf("Read(%q): %v, %v", s, x, ok)
			}
		}
	}
	for _, s := range []string{"a", "a=", "a=1", "a='1", "a = \"", ""} {
		for range 2 {
			if a, next, how := Attr(s, 0); a != (api.Attr{}) || next != len(s) || how != 0 {
				t.Errorf("Attr(%q): %v, %d, %d", s, a, next, how)
			}
		}
	}
}

// R5: texts that are made of one piece of memory, so that bytes stand right behind each: they are not read.
func TestBytesBehindTheTextAreNotRead(t *testing.T) {
	whole := "</p a=1 b='&lt;'/>"
	mustNone(t, whole[:0], 0)
	mustNone(t, whole[:1], 0)
	mustNone(t, whole[:2], 0)
	for n := 3; n < len(whole); n++ {
		mustAnswer(t, whole[:n], 0, api.Token{}, n, false)
	}
	mustAnswer(t, whole, 0, end("p"), len(whole), true)
	mustAttr(t, whole[:5], 4, "", "", 5, 0)
	mustAttr(t, whole[:7], 4, "", "", 7, 0)
	mustAttr(t, whole[:8], 4, "a", "1", 7, 1)
	mustAttr(t, whole[:15], 8, "", "", 15, 0)
	mustAttr(t, whole[:16], 8, "b", "<", 16, 1)
}
