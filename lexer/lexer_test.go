package lexer

import (
	"math"
	"strings"
	"testing"
	"unsafe"

	"arbour/api"
	"arbour/chars"
	"arbour/mark"
	"arbour/names"
	"arbour/ref"
	"arbour/tag"
	"arbour/token"
)

var (
	allModes    = []int{api.Data, api.Rcdata, api.Rawtext, api.Plaintext}
	rawModes    = []int{api.Rcdata, api.Rawtext}
	noModes     = []int{0, -1, -2, api.Plaintext + 1, api.Plaintext + 2, 9, 255, 256 + api.Rawtext, 1<<32 + api.Plaintext, -api.Rcdata, math.MinInt, math.MinInt + api.Rcdata, math.MaxInt, math.MaxInt - 1, math.MinInt32, math.MaxInt32}
	allSpaces   = []string{" ", "\t", "\n", "\f", "\r"}
	otherSpaces = []string{"\v", "\x00", "\x1C", "\x85", "\xA0", "\u00a0", "\u2003", "\u2028", "\u3000", "\ufeff"}
	wrongTexts  = []string{"\xFF", "\xC3", "\x80", "a\xE2\x82", "\xED\xA0\x80", "\xC0\x80", "\xF0\x9F\x98z", "\xBC", "\xBE\xAF"}
	eof         = api.Token{Kind: api.EOF}
)

func shown(l []api.Token) string {
	var out []string
	for _, t := range l {
		out = append(out, token.Text(t))
	}
	return strings.Join(out, "|")
}

// mustTell calls Next once, and asks what it told and where the lexer stands then.
func mustTell(t *testing.T, l *Lexer, want string, at int) {
	t.Helper()
	x := l.Next()
	if token.Text(x) != want || l.At() != at {
		t.Errorf("Next of %.80q: %.80q at %d, want %.80q at %d", l.s, token.Text(x), l.At(), want, at)
	}
	if !token.Right(x) {
		t.Errorf("Next of %.80q: %.80q is not right", l.s, token.Text(x))
	}
}

// mustEnd asks for EOF at the end, again and again, in whatever mode.
func mustEnd(t *testing.T, l *Lexer, size int) {
	t.Helper()
	for range 3 {
		mustTell(t, l, ".", size)
	}
	for _, mode := range append(append([]int{}, allModes...), noModes...) {
		l.Set(mode)
		l.Foreign(mode%2 == 0)
		mustTell(t, l, ".", size)
	}
}

// rest calls Next until EOF; a lexer that stands still or tells too much is stopped.
func rest(t *testing.T, l *Lexer) []api.Token {
	t.Helper()
	var all []api.Token
	for {
		from := l.At()
		x := l.Next()
		all = append(all, x)
		if !token.Right(x) {
			t.Fatalf("%.80q: %.80q is not right", l.s, token.Text(x))
		}
		if x.Kind == api.EOF {
			if l.At() != len(l.s) {
				t.Fatalf("%.80q: EOF at %d", l.s, l.At())
			}
			return all
		}
		if l.At() <= from || l.At() > len(l.s) {
			t.Fatalf("%.80q: from %d to %d", l.s, from, l.At())
		}
	}
}

func mustRest(t *testing.T, l *Lexer, want string) {
	t.Helper()
	if got := shown(rest(t, l)); got != want {
		t.Errorf("%.80q: %.120q, want %.120q", l.s, got, want)
	}
	mustEnd(t, l, len(l.s))
}

// mustData reads s in Data all along.
func mustData(t *testing.T, s, want string) {
	t.Helper()
	for _, foreign := range []bool{false, true} {
		l := New(s)
		l.Foreign(foreign)
		mustRest(t, l, want)
	}
}

// behind tells a lexer that stands behind a Start of that name, in that mode.
func behind(name, s string, mode int) *Lexer {
	l := New("<" + name + ">" + s)
	l.Next()
	l.Set(mode)
	return l
}

// mustRaw reads s behind a Start title, in that mode.
func mustRaw(t *testing.T, mode int, s, want string) {
	t.Helper()
	mustRest(t, behind("title", s, mode), want)
}

// mustBoth is for what is the same in Rcdata and Rawtext.
func mustBoth(t *testing.T, s, want string) {
	t.Helper()
	for _, mode := range rawModes {
		mustRaw(t, mode, s, want)
	}
}

func mustAll(t *testing.T, s, want string) {
	t.Helper()
	if got := shown(All(s)); got != want {
		t.Errorf("All(%.80q): %.120q, want %.120q", s, got, want)
	}
}

func TestRunOfTheChapter(t *testing.T) {
	l := All("<title>a<b>&lt;</title>")
	want := []api.Token{{Kind: api.Start, Name: "title"}, {Kind: api.Text, Text: "a<b><"}, {Kind: api.End, Name: "title"}, eof}
	if len(l) != len(want) {
		t.Fatalf("%v", l)
	}
	for i, x := range want {
		if !token.Same(l[i], x) {
			t.Errorf("%d: %v, want %v", i, l[i], x)
		}
	}
}

func TestExamplesOfTheChapter(t *testing.T) {
	mustAll(t, "a < b", `"a < b|.`)
	mustAll(t, "<p", ".")
}

// P13.1: at the end EOF, each time; a new one stands at 0.
func TestNextAtTheEnd(t *testing.T) {
	for _, foreign := range []bool{false, true} {
		for _, mode := range allModes {
			l := New("")
			if l.At() != 0 {
				t.Errorf("At: %d", l.At())
			}
			l.Set(mode)
			l.Foreign(foreign)
			mustEnd(t, l, 0)
		}
	}
	mustEnd(t, New(""), 0)
	for _, s := range []string{"a", "<p>", "</p>", "<!--a-->", "&amp;", "\xFF", "<"} {
		l := New(s)
		if l.At() != 0 {
			t.Errorf("At of %q: %d", s, l.At())
		}
		l.Next()
		mustEnd(t, l, len(s))
	}
}

// P13.1: in Data: tags are told as tag.Read tells them.
func TestDataTags(t *testing.T) {
	mustData(t, "<p>", "<p|.")
	mustData(t, "</p>", "/p|.")
	mustData(t, "<P></P>", "<p|/p|.")
	mustData(t, "<a b=1 B=2 c/>x", `<a b=1 c=/|"x|.`)
	mustData(t, "</a b=1/>x", `/a|"x|.`)
	mustData(t, "<br/><br /><br>", "<br/|<br/|<br|.")
	mustData(t, "<a b='<p>'></a>", "<a b=<p>|/a|.")
	mustData(t, "<a b=&lt;>", "<a b=<|.")
	mustData(t, "<a<b>c", `<a<b|"c|.`)
	mustData(t, "<title></title><style><script>", "<title|/title|<style|<script|.")
	mustData(t, "<plaintext>a<p>", `<plaintext|"a|<p|.`)
	l := New("<p a=1>b</p >c")
	mustTell(t, l, "<p a=1", 7)
	mustTell(t, l, `"b`, 8)
	mustTell(t, l, "/p", 13)
	mustTell(t, l, `"c`, 14)
	mustEnd(t, l, 14)
	for c := range 256 {
		b := string([]byte{byte(c)})
		name := "p" + b
		switch {
		case strings.ContainsAny(b, "\t\n\f\r />"):
			continue
		case b >= "A" && b <= "Z":
			name = "p" + string([]byte{byte(c) + 32})
		}
		mustData(t, "<P"+b+">x</P"+b+">", "<"+name+`|"x|/`+name+"|.")
	}
}

// P13.1: a lost tag is EOF, and the lexer stands at the end.
func TestDataLostTags(t *testing.T) {
	for _, lost := range []string{"<p", "</p", "<P ", "</p\n", "<p/", "<p a", "<p a=", "<p a='", "<p a='>", "<p a=\">x<p>'", "<p a=b", "</p a='>", "<p a ", "<p a= ", "<p a=b ", "<p a='b'", "<a<b", "<p &amp;", "<p\xFF", "</p \xC3", "<p\x00", "<p <!--a--", "<p </"} {
		l := New(lost)
		mustTell(t, l, ".", len(lost))
		mustEnd(t, l, len(lost))
		mustAll(t, lost, ".")
		for _, ahead := range [][2]string{{"a", `"a`}, {"<b>", "<b"}, {"</b>", "/b"}, {"<!--a-->", "-a"}, {"<!doctype a>", "!a"}, {"&lt;", `"<`}, {"<", `"<`}, {"a<", `"a<`}, {"<b>&", `<b|"&`}, {"<?>", "-?"}} {
			mustData(t, ahead[0]+lost, ahead[1]+"|.")
			mustAll(t, ahead[0]+lost, ahead[1]+"|.")
		}
		mustData(t, "</>"+lost, ".")
		mustData(t, "</></>"+lost, ".")
		l = New("ab" + lost)
		mustTell(t, l, `"ab`, 2)
		mustTell(t, l, ".", 2+len(lost))
		mustEnd(t, l, 2+len(lost))
	}
}

// P13.1: comments and doctypes are told as mark.Read tells them.
func TestDataMarks(t *testing.T) {
	mustData(t, "<!--a-->b", `-a|"b|.`)
	mustData(t, "<!--a--!>", "-a|.")
	mustData(t, "<!--a", "-a|.")
	mustData(t, "<!-->-->", `-|"-->|.`)
	mustData(t, "<!--&lt;<p>-->", "-&lt;<p>|.")
	mustData(t, "<?a>b", `-?a|"b|.`)
	mustData(t, "<!a>b", `-a|"b|.`)
	mustData(t, "</1>b", `-1|"b|.`)
	mustData(t, "</ p>", "- p|.")
	mustData(t, "<!", "-|.")
	mustData(t, "<?", "-?|.")
	mustData(t, "</ ", "- |.")
	mustData(t, "<!doctype html><p>", "!html|<p|.")
	mustData(t, "<!DOCTYPE>", "!|.")
	mustData(t, "<!DOCTYPE A b", "!a|.")
	mustData(t, "a<!doctype b>c", `"a|!b|"c|.`)
	mustData(t, "a<!--b--><?c></1><!d>e", `"a|-b|-?c|-1|-d|"e|.`)
	l := New("a<!--b--><!doctype c>d")
	mustTell(t, l, `"a`, 1)
	mustTell(t, l, "-b", 9)
	mustTell(t, l, "!c", 21)
	mustTell(t, l, `"d`, 22)
	mustEnd(t, l, 22)
}

// P13.1: where mark.Read says that nothing is there, it goes on from there.
func TestDataNothing(t *testing.T) {
	mustData(t, "</>", ".")
	mustData(t, "</></>", ".")
	mustData(t, "</></></>", ".")
	mustData(t, "</>a", `"a|.`)
	mustData(t, "a</>", `"a|.`)
	mustData(t, "a</>b", `"a|"b|.`)
	mustData(t, "a</></></>b", `"a|"b|.`)
	mustData(t, "</><p></></p></>", "<p|/p|.")
	mustData(t, "</><!--a--></>", "-a|.")
	mustData(t, "</><", `"<|.`)
	mustData(t, "</>&lt;</>", `"<|.`)
	mustData(t, "</></", `"</|.`)
	mustData(t, "</>>", `">|.`)
	mustData(t, "<</>", `"<|.`)
	mustData(t, "&</>", `"&|.`)
	l := New("a</></>b</>")
	mustTell(t, l, `"a`, 1)
	mustTell(t, l, `"b`, 8)
	mustTell(t, l, ".", 11)
	mustEnd(t, l, 11)
	l = New("</></>")
	mustTell(t, l, ".", 6)
}

// P13.1, P13.2: a CDATA section is a Text of its own with Foreign, else a Comment.
func TestDataCDATA(t *testing.T) {
	for _, c := range []struct{ s, with, without string }{
		{"<![CDATA[x]]>", `"x|.`, "-[CDATA[x]]|."},
		{"<![CDATA[]]>", ".", "-[CDATA[]]|."},
		{"<![CDATA[", ".", "-[CDATA[|."},
		{"<![CDATA[x", `"x|.`, "-[CDATA[x|."},
		{"a<![CDATA[b]]>c", `"a|"b|"c|.`, `"a|-[CDATA[b]]|"c|.`},
		{"a<![CDATA[]]>c", `"a|"c|.`, `"a|-[CDATA[]]|"c|.`},
		{"<![CDATA[]]><![CDATA[]]></><p>", "<p|.", "-[CDATA[]]|-[CDATA[]]|<p|."},
		{"<![CDATA[&lt;<p>]]>", `"&lt;<p>|.`, `-[CDATA[&lt;<p|"]]>|.`},
		{"<![CDATA[a>b]]>c", `"a>b|"c|.`, `-[CDATA[a|"b]]>c|.`},
		{"<![CDATA[]]]>", `"]|.`, "-[CDATA[]]]|."},
		{"<![CDATA[a]]><![CDATA[b]]>", `"a|"b|.`, "-[CDATA[a]]|-[CDATA[b]]|."},
		{"<![cdata[a]]>", "-[cdata[a]]|.", "-[cdata[a]]|."},
	} {
		l := New(c.s)
		mustRest(t, l, c.without)
		l = New(c.s)
		l.Foreign(false)
		mustRest(t, l, c.without)
		l = New(c.s)
		l.Foreign(true)
		mustRest(t, l, c.with)
		mustAll(t, c.s, c.without)
	}
}

// P13.1: Texts without references: a < where nothing begins is text.
func TestDataTexts(t *testing.T) {
	for _, s := range append([]string{
		"a", "ab c", " ", "\t\n\f\r ", "\n", ">", "a>b", "/>", "-->", "]]>", "\"'", "=", ";", "#65;", "amp;", "\x00", "\v", "\u00e9\u20ac\U0001F600", "\ufeffa", "\uff1cp>",
		"<", "a<", "<<", "<<<", "a<<1", "< ", "<>", "< p>", "<1", "a<1>b", "a < b", "a < b < c", "<=<", "<-", "<--a-->", "<\"", "<'p'>", "<&", "<\np>", "<\x00p>", "<@", "<[", "<`", "<{", "<\u00e9>", "<\uff41>", "<\xE1", "</", "a</", "<</", "<=", "1<2>3", "<<<<</",
	}, wrongTexts...) {
		mustData(t, s, `"`+s+"|.")
		mustData(t, "<p>"+s, `<p|"`+s+"|.")
		if s[len(s)-1] != '/' {
			mustData(t, s+"<p>", `"`+s+"|<p|.")
			mustData(t, s+"</p>"+s, `"`+s+`|/p|"`+s+"|.")
			mustData(t, s+"<!--a-->"+s, `"`+s+`|-a|"`+s+"|.")
			mustData(t, s+"<!doctype a>"+s, `"`+s+`|!a|"`+s+"|.")
			mustData(t, s+"</>"+s, `"`+s+`|"`+s+"|.")
			mustData(t, s+"<p a='", `"`+s+"|.")
			mustData(t, s+"<?", `"`+s+"|-?|.")
			mustData(t, s+" < "+s, `"`+s+" < "+s+"|.")
		}
	}
	// A slash at the end goes with what follows.
	mustData(t, "</<p>", "-<p|.")
	mustData(t, "a</</p>", `"a|-</p|.`)
	mustData(t, "<</p>", `"<|/p|.`)
	mustData(t, "a<<!--b-->", `"a<|-b|.`)
	mustData(t, "<<p>", `"<|<p|.`)
	mustData(t, "<<<p><", `"<<|<p|"<|.`)
}

// P13.1: every byte behind < and </, at the beginning and behind something else.
func TestDataOfEveryByte(t *testing.T) {
	for c := range 256 {
		b := string([]byte{byte(c)})
		letter := c >= 'a' && c <= 'z' || c >= 'A' && c <= 'Z'
		low := strings.ToLower(b)
		switch {
		case letter:
			mustData(t, "<"+b+">", "<"+low+"|.")
			mustData(t, "x<"+b+">", `"x|<`+low+"|.")
			mustData(t, "x<"+b, `"x|.`)
			mustData(t, "</"+b+">", "/"+low+"|.")
			mustData(t, "x</"+b+">", `"x|/`+low+"|.")
			mustData(t, "x</"+b, `"x|.`)
			continue
		case b == "!":
			mustData(t, "x<!>", `"x|-|.`)
		case b == "?":
			mustData(t, "x<?>", `"x|-?|.`)
		case b == "/":
			mustData(t, "x</1>", `"x|-1|.`)
		case b == "<":
			mustData(t, "x<<1>", `"x<<1>|.`)
		default:
			mustData(t, "<"+b+"1>", `"<`+b+"1>|.")
			mustData(t, "x<"+b+"1>", `"x<`+b+"1>|.")
			mustData(t, "x<"+b, `"x<`+b+"|.")
		}
		if b != ">" {
			mustData(t, "x</"+b+">", `"x|-`+b+"|.")
			mustData(t, "x</"+b, `"x|-`+b+"|.")
		}
	}
}

// P13.1: in a Text references are read, and what they stand for is not read again.
func TestDataReferences(t *testing.T) {
	for _, c := range [][2]string{
		{"&amp;", "&"}, {"&lt;", "<"}, {"&AMP", "&"}, {"&amp;lt;", "&lt;"}, {"&lt;p>", "<p>"}, {"&lt;!--a-->", "<!--a-->"}, {"&lt;/p>", "</p>"}, {"&#60;p>", "<p>"}, {"&#x3c;/>", "</>"}, {"&#x26;lt;", "&lt;"},
		{"&#65;", "A"}, {"&#65", "A"}, {"&#x41;", "A"}, {"&#X41", "A"}, {"&#0;", "\ufffd"}, {"&#x80;", "\u20ac"}, {"&#xD800;", "\ufffd"}, {"&#99999999999999999999;", "\ufffd"}, {"&#65;&#x42;&#67", "ABC"},
		{"&notit;", "\u00acit;"}, {"&notin;", "\u2209"}, {"&ampx", "&x"}, {"&amp=1", "&=1"}, {"&copy=2", "\u00a9=2"}, {"&copya", "\u00a9a"}, {"&NotEqualTilde;", "\u2242\u0338"}, {"&cent", "&cent"}, {"&cent;", "\u00a2"},
		{"&", "&"}, {"&&", "&&"}, {"&;", "&;"}, {"& a", "& a"}, {"&#", "&#"}, {"&#;", "&#;"}, {"&#x", "&#x"}, {"&#x;", "&#x;"}, {"&#xg", "&#xg"}, {"&a", "&a"}, {"&Amp;", "&Amp;"}, {"&&amp;", "&&"}, {"&amp&amp;", "&&"}, {"&amp;&", "&&"}, {"&\xFF", "&\xFF"}, {"&#65\xC3", "A\xC3"},
		{"a&amp;b", "a&b"}, {"a&lt;b&gt;c", "a<b>c"}, {"a&", "a&"}, {"&a&b&c", "&a&b&c"},
	} {
		mustData(t, c[0], `"`+c[1]+"|.")
		mustAll(t, c[0], `"`+c[1]+"|.")
		mustData(t, "<p>"+c[0]+"</p>", `<p|"`+c[1]+"|/p|.")
		mustData(t, c[0]+"<!--&lt;-->"+c[0], `"`+c[1]+`|-&lt;|"`+c[1]+"|.")
		mustData(t, c[0]+"<p", `"`+c[1]+"|.")
		mustData(t, c[0]+" < "+c[0]+" <", `"`+c[1]+" < "+c[1]+" <|.")
		mustData(t, "<< "+c[0]+"< "+c[0], `"<< `+c[1]+"< "+c[1]+"|.")
		l := New(c[0] + "<p>")
		mustTell(t, l, `"`+c[1], len(c[0]))
		mustTell(t, l, "<p", len(c[0])+3)
	}
	// A reference ends where a tag or a mark begins, and has no part of it.
	mustData(t, "&am<p>p;", `"&am|<p|"p;|.`)
	mustData(t, "&#6</>5;", `"`+"\x06"+`|"5;|.`)
	mustData(t, "&#<!-->65;", `"&#|-|"65;|.`)
	mustData(t, "&<p>", `"&|<p|.`)
	mustData(t, "<&lt;<", `"<<<|.`)
}

// P13.1: a Text is as long as may be: no two that Data tells stand side by side.
func TestDataTextsAreLong(t *testing.T) {
	const one, meant = "a < b &amp; c <1> &lt;p> <\xFF&#65", "a < b & c <1> <p> <\xFFA"
	s, text := strings.Repeat(one, 50), strings.Repeat(meant, 50)
	mustData(t, s, `"`+text+"|.")
	mustData(t, s+"<p>"+s+"<!>"+s, `"`+text+`|<p|"`+text+`|-|"`+text+"|.")
	texts([]string{"<", "/", "a", ">", "&lt;", " ", "!", "1"}, 5, func(s string) {
		l := New(s)
		for was, x := 0, l.Next(); x.Kind != api.EOF; x = l.Next() {
			// Behind </>, which is nothing, a Text begins anew.
			if was == api.Text && x.Kind == api.Text && !strings.Contains(s, "</>") {
				t.Fatalf("%q: two Texts", s)
			}
			was = x.Kind
		}
	})
}

// P13.1: in Rcdata and Rawtext a Text goes to the end tag of the last Start, right here or behind a text.
func TestRawEnds(t *testing.T) {
	for _, name := range []string{"title", "TITLE", "Title", "tItLe"} {
		for _, sign := range append([]string{"/", ">"}, allSpaces...) {
			end := "</" + name + sign
			if sign != ">" {
				mustBoth(t, end, ".")
				mustBoth(t, "a"+end, `"a|.`)
				mustBoth(t, end+"x", ".")
				mustBoth(t, "a"+end+"b='>", `"a|.`)
				mustBoth(t, "a"+end+"b='>'>c", `"a|/title|"c|.`)
				end += ">"
			}
			mustBoth(t, end, "/title|.")
			mustBoth(t, "a"+end, `"a|/title|.`)
			mustBoth(t, "<"+end, `"<|/title|.`)
			mustBoth(t, "</"+end, `"</|/title|.`)
			mustBoth(t, "</title"+end, `"</title|/title|.`)
			mustBoth(t, "a<b></b><!--"+end+"-->", `"a<b></b><!--|/title|"-->|.`)
			mustBoth(t, "\xFF"+end+"\xC3", "\"\xFF|/title|\"\xC3|.")
		}
	}
	for _, mode := range rawModes {
		l := behind("title", "ab</title x>c", mode)
		mustTell(t, l, `"ab`, 9)
		mustTell(t, l, "/title", 19)
		mustTell(t, l, `"c`, 20)
		mustEnd(t, l, 20)
		l = behind("title", "ab</title x", mode)
		mustTell(t, l, `"ab`, 9)
		mustTell(t, l, ".", 18)
		mustEnd(t, l, 18)
		l = behind("title", "</title/", mode)
		mustTell(t, l, ".", 15)
		mustEnd(t, l, 15)
	}
}

// P13.1: what is no such end tag is text, to the end if there is none.
func TestRawTexts(t *testing.T) {
	for _, s := range append([]string{
		"a", " ", "\n", "<", "</", "</>", "<p>", "</p>", "</ title>", "</titles>", "</titlee>", "</title1>", "</title<>", "</title-", "</title=>", "</title\"", "</titl>", "</titl e>", "</tit/le>", "</ttitle>", "</xtitle>", "< /title>", "<title>", "<TITLE >", "<\\title>", "/title>", "title>", "<//title>", "<!/title>", "</itle>", "<!--a-->", "<!--", "<!doctype a>", "<![CDATA[a]]>", "<![CDATA[]]>", "<?a>", "</1>", "<p a='", "a<p", "</t\u0131tle>", "</t\u0130tle>", "</\uff54itle>", "</t\u2170tle>", "</tit\xCCe>", "</title\xA0>", "&", "& &", "\x00", "\u00e9", "&;lt", "</TITL\u0045S>",
	}, wrongTexts...) {
		mustBoth(t, s, `"`+s+"|.")
		mustBoth(t, "x"+s, `"x`+s+"|.")
		mustBoth(t, s+s, `"`+s+s+"|.")
		mustBoth(t, s+"</title>"+"y", `"`+s+`|/title|"y|.`)
		mustBoth(t, s+" </tItle\n>", `"`+s+" |/title|.")
	}
	for _, space := range otherSpaces {
		mustBoth(t, "</title"+space+">", `"</title`+space+">|.")
		mustBoth(t, "a</title"+space+"></title>", `"a</title`+space+">|/title|.")
	}
	const end = "</title>"
	for n := 1; n < len(end); n++ {
		mustBoth(t, end[:n], `"`+end[:n]+"|.")
		mustBoth(t, "a"+end[:n], `"a`+end[:n]+"|.")
		mustBoth(t, end[:n]+"<", `"`+end[:n]+"<|.")
		mustBoth(t, end[:n]+"<"+end, `"`+end[:n]+"<|/title|.")
		// One byte of it another one.
		near := end[:n] + "_" + end[n+1:]
		mustBoth(t, near, `"`+near+"|.")
	}
}

// P13.1: every byte behind the name, and every byte in it.
func TestRawOfEveryByte(t *testing.T) {
	for c := range 256 {
		b := string([]byte{byte(c)})
		switch {
		case b == ">":
			mustBoth(t, "x</title>>y", `"x|/title|">y|.`)
		case strings.ContainsAny(b, "\t\n\f\r /"):
			mustBoth(t, "x</title"+b+">y", `"x|/title|"y|.`)
		default:
			mustBoth(t, "x</title"+b+">y", `"x</title`+b+">y|.")
		}
		if b != "t" && b != "T" {
			mustBoth(t, "x</ti"+b+"le>y", `"x</ti`+b+"le>y|.")
		}
	}
}

// P13.1: Rcdata reads references, Rawtext does not.
func TestRawReferences(t *testing.T) {
	for _, c := range [][2]string{
		{"&lt;", "<"}, {"a&amp;b", "a&b"}, {"&amp;lt;", "&lt;"}, {"&#65;&#x41", "AA"}, {"&notit;", "\u00acit;"}, {"&copy=1", "\u00a9=1"}, {"&lt;/title>", "</title>"}, {"&#60;/title>", "</title>"}, {"<&amp;/title>", "<&/title>"}, {"</&#116;itle>", "</title>"}, {"</title&gt;", "</title>"}, {"<b>&gt;</b>", "<b>></b>"}, {"&#0;", "\ufffd"}, {"&x&gt", "&x>"},
	} {
		mustRaw(t, api.Rcdata, c[0], `"`+c[1]+"|.")
		mustRaw(t, api.Rawtext, c[0], `"`+c[0]+"|.")
		// Behind the end tag the mode is Data: there references are read.
		mustRaw(t, api.Rcdata, c[0]+"</title>&lt;", `"`+c[1]+`|/title|"<|.`)
		mustRaw(t, api.Rawtext, c[0]+"</title>&lt;", `"`+c[0]+`|/title|"<|.`)
	}
	mustBoth(t, "&</title>", `"&|/title|.`)
	mustBoth(t, "&am</title>p;", `"&am|/title|"p;|.`)
	mustRaw(t, api.Rcdata, "&#65</title>5;", `"A|/title|"5;|.`)
	mustRaw(t, api.Rawtext, "&#65</title>5;", `"&#65|/title|"5;|.`)
	l := behind("title", "a&lt;b</title>", api.Rcdata)
	mustTell(t, l, `"a<b`, 13)
	mustTell(t, l, "/title", 21)
}

// P13.1: names of all sorts.
func TestRawNames(t *testing.T) {
	for _, name := range []string{"a", "p", "script", "style", "textarea", "xmp", "noscript", "h1", "x-y", "a<b", "a&lt;", "a'", "a=", "a\"b", "a\x00", "a\u00e9", "a\xFF", "a\xC3z", strings.Repeat("ab", 3000)} {
		for _, mode := range rawModes {
			l := behind(name, "x</"+name+"y></"+strings.ToUpper(name[:1])+name[1:]+" >z", mode)
			text := "x</" + name + "y>"
			if mode == api.Rcdata {
				text = ref.All(text, false)
			}
			mustTell(t, l, `"`+text, 2*len(name)+7)
			mustTell(t, l, "/"+name, 3*len(name)+11)
			mustTell(t, l, `"z`, 3*len(name)+12)
		}
	}
}

// P13.1: the last Start is what Next told last, whatever came between, and stays so.
func TestTheLastStart(t *testing.T) {
	for _, between := range []string{"</b>", "</B c>", "x", "&lt;p>", "<!--<p>-->", "<!doctype p>", "</>x", "<?p>", "</1><!p>", "</i></b><!-- --></u>"} {
		for _, mode := range rawModes {
			l := New("<i><b>" + between + "</i></b>")
			mustTell(t, l, "<i", 3)
			mustTell(t, l, "<b", 6)
			for l.At() < 6+len(between) {
				l.Next()
			}
			l.Set(mode)
			mustTell(t, l, `"</i>`, 10+len(between))
			mustTell(t, l, "/b", 14+len(between))
		}
	}
	for _, mode := range rawModes {
		l := New("<a><p>x</a>y</a>")
		l.Next()
		l.Set(mode)
		// A Start within a raw text is none.
		mustTell(t, l, `"<p>x`, 7)
		mustTell(t, l, "/a", 11)
		l.Set(mode)
		mustTell(t, l, `"y`, 12)
		mustTell(t, l, "/a", 16)
		// Nor one in Plaintext, nor a lost one.
		l = New("<a><b x='</a>")
		l.Next()
		l.Set(mode)
		mustTell(t, l, `"<b x='`, 9)
		mustTell(t, l, "/a", 13)
		// An End that Next told has not changed it; a Start with Self has.
		l = New("<a></b></a><b/></a></b>")
		l.Next()
		mustTell(t, l, "/b", 7)
		l.Set(mode)
		mustTell(t, l, "/a", 11)
		mustTell(t, l, "<b/", 15)
		l.Set(mode)
		mustTell(t, l, `"</a>`, 19)
		mustTell(t, l, "/b", 23)
	}
}

// P13.2: without a Start ahead nothing ends a raw text; an End ahead is none.
func TestRawWithoutAStart(t *testing.T) {
	for _, s := range []string{"a</p>", "</p>", "</>", "a</>b", "</ >", "</", "</title></TITLE>", "<p></p>", "<!--a-->"} {
		l := New(s)
		l.Set(api.Rawtext)
		mustRest(t, l, `"`+s+"|.")
		l = New(s + "&lt;" + s)
		l.Set(api.Rawtext)
		mustRest(t, l, `"`+s+"&lt;"+s+"|.")
		l = New(s + "&lt;" + s)
		l.Set(api.Rcdata)
		mustRest(t, l, `"`+s+"<"+s+"|.")
		for _, mode := range rawModes {
			l = New("</p>" + s)
			mustTell(t, l, "/p", 4)
			l.Set(mode)
			mustRest(t, l, `"`+s+"|.")
			l = New("<!p><!doctype p>a</>" + s)
			for range 3 {
				l.Next()
			}
			l.Set(mode)
			mustRest(t, l, `"</>`+s+"|.")
		}
	}
}

// P13.1: behind the end tag the mode is Data; ahead of it, it stays what it is.
func TestTheModeBehind(t *testing.T) {
	for _, mode := range rawModes {
		l := behind("p", "a</p>b<p>c</p>", mode)
		mustRest(t, l, `"a|/p|"b|<p|"c|/p|.`)
		l = behind("p", "</p></p>&lt;<i>", mode)
		mustRest(t, l, `/p|/p|"<|<i|.`)
		l = behind("p", "a<i></p><i></p>", mode)
		mustTell(t, l, `"a<i>`, 7)
		mustTell(t, l, "/p", 11)
		l.Set(mode)
		mustTell(t, l, `"<i>`, 14)
		mustTell(t, l, "/p", 18)
		mustEnd(t, l, 18)
	}
	// A tag or a mark of Data leaves the mode as it is.
	mustData(t, "<i></i><!--a--><i>", "<i|/i|-a|<i|.")
}

// P13.1: in Plaintext all that is left is one Text, as it stands.
func TestPlaintext(t *testing.T) {
	for _, s := range append([]string{"a", "<", "<p>", "</p>", "</plaintext>", "</title>", "&lt;", "&", "<!--a-->", "<!doctype a>", "</>", "a</>b", "<![CDATA[a]]>", "<p a='", "<p", "a\n<b>&amp;</b>\x00", "\u00e9"}, wrongTexts...) {
		for _, foreign := range []bool{false, true} {
			l := New(s)
			l.Set(api.Plaintext)
			l.Foreign(foreign)
			mustTell(t, l, `"`+s, len(s))
			mustEnd(t, l, len(s))
			l = New("<title>" + s + "</title>" + s)
			l.Next()
			l.Set(api.Plaintext)
			l.Foreign(foreign)
			mustTell(t, l, `"`+s+"</title>"+s, 15+2*len(s))
			mustEnd(t, l, 15+2*len(s))
		}
		mustAll(t, "<plaintext>"+s, `<plaintext|"`+s+"|.")
	}
}

// P13.2: Set, ahead of the first Next and between, with each mode and with ones that are none; the last one holds, and the place stays.
func TestSet(t *testing.T) {
	const s = "a<b>&lt;</p>c<i>"
	told := map[int]string{
		api.Data:      `"a|<b|"<|/p|"c|<i|.`,
		api.Rcdata:    `"a<b><|/p|"c|<i|.`,
		api.Rawtext:   `"a<b>&lt;|/p|"c|<i|.`,
		api.Plaintext: `"a<b>&lt;</p>c<i>|.`,
	}
	for _, mode := range allModes {
		mustRest(t, behind("p", s, mode), told[mode])
		for _, none := range noModes {
			l := behind("p", s, mode)
			l.Set(none)
			mustRest(t, l, told[api.Data])
			l = behind("p", s, none)
			l.Set(mode)
			mustRest(t, l, told[mode])
		}
		for _, other := range allModes {
			l := behind("p", s, mode)
			l.Set(other)
			if l.At() != 3 {
				t.Errorf("At: %d", l.At())
			}
			mustRest(t, l, told[other])
			l.Set(other)
			if l.At() != len(s)+3 {
				t.Errorf("At: %d", l.At())
			}
		}
	}
	for _, none := range append([]int{api.Data}, noModes...) {
		l := New(s)
		l.Set(none)
		mustRest(t, l, told[api.Data])
	}
	for mode, want := range map[int]string{api.Rcdata: `"a<b><</p>c<i>|.`, api.Rawtext: `"` + s + "|.", api.Plaintext: `"` + s + "|."} {
		l := New(s)
		l.Set(mode)
		mustRest(t, l, want)
	}
}

// P13.2: modes that are set between, where no tag asks for them.
func TestSetBetween(t *testing.T) {
	l := New("<p>a</p><b>c</b>&lt;<i>")
	mustTell(t, l, "<p", 3)
	l.Set(api.Rawtext)
	mustTell(t, l, `"a`, 4)
	l.Set(math.MinInt)
	mustTell(t, l, "/p", 8)
	mustTell(t, l, "<b", 11)
	l.Set(api.Rcdata)
	mustTell(t, l, `"c`, 12)
	l.Set(api.Rawtext)
	mustTell(t, l, "/b", 16)
	l.Set(api.Plaintext)
	mustTell(t, l, `"&lt;<i>`, 23)
	mustEnd(t, l, 23)
	// In Data a Text has ended at a tag; a raw text goes over it.
	l = New("<p>a<b>c</p>")
	mustTell(t, l, "<p", 3)
	mustTell(t, l, `"a`, 4)
	l.Set(api.Rawtext)
	mustTell(t, l, `"<b>c`, 8)
	mustTell(t, l, "/p", 12)
}

// P13.2: Foreign turned on and off between: it holds from now on, and the place stays.
func TestForeignBetween(t *testing.T) {
	const one = "<![CDATA[x]]>"
	l := New(strings.Repeat(one, 7))
	mustTell(t, l, "-[CDATA[x]]", 13)
	l.Foreign(true)
	if l.At() != 13 {
		t.Errorf("At: %d", l.At())
	}
	mustTell(t, l, `"x`, 26)
	mustTell(t, l, `"x`, 39)
	l.Foreign(true)
	mustTell(t, l, `"x`, 52)
	l.Foreign(false)
	mustTell(t, l, "-[CDATA[x]]", 65)
	l.Foreign(true)
	l.Foreign(false)
	mustTell(t, l, "-[CDATA[x]]", 78)
	// Set has nothing to do with it.
	l.Foreign(true)
	l.Set(api.Rawtext)
	l.Set(api.Data)
	mustTell(t, l, `"x`, 91)
	mustEnd(t, l, 91)
	// Turned on once the lexer has passed what goes ahead.
	l = New("a" + one + "b")
	mustTell(t, l, `"a`, 1)
	l.Foreign(true)
	mustTell(t, l, `"x`, 14)
	mustTell(t, l, `"b`, 15)
	// Behind a raw text it holds, too; within one it does nothing.
	l = behind("p", one+"</p>"+one, api.Rawtext)
	l.Foreign(true)
	mustRest(t, l, `"`+one+`|/p|"x|.`)
}

// P13.2: All: behind each Start the mode of names.Raw, not scripting.
func TestAll(t *testing.T) {
	for _, name := range []string{"textarea", "title"} {
		mustAll(t, "<"+name+">a<b>&lt;</b></"+name+">&lt;<b>", "<"+name+`|"a<b><</b>|/`+name+`|"<|<b|.`)
		mustAll(t, "<"+strings.ToUpper(name)+" a=b/><p></"+name+"><p>", "<"+name+` a=b/|"<p>|/`+name+"|<p|.")
		mustAll(t, "<"+name+"></"+name+">", "<"+name+"|/"+name+"|.")
		mustAll(t, "<"+name+"><p>&lt;", "<"+name+`|"<p><|.`)
	}
	for _, name := range []string{"script", "style", "xmp"} {
		mustAll(t, "<"+name+">a<b>&lt;</b></"+name+">&lt;<b>", "<"+name+`|"a<b>&lt;</b>|/`+name+`|"<|<b|.`)
		mustAll(t, "<"+name+"/><!--</"+strings.ToUpper(name)+" x>y", "<"+name+`/|"<!--|/`+name+`|"y|.`)
		mustAll(t, "<"+name+">a</"+name, "<"+name+`|"a</`+name+"|.")
		mustAll(t, "<"+name+">a</"+name+" ", "<"+name+`|"a|.`)
	}
	for _, name := range []string{"noscript", "p", "b", "a", "svg", "template", "iframe", "noembed", "noframes", "titles", "scripts", "styl", "plaintexts", "listing", "textare", "x"} {
		mustAll(t, "<"+name+">a<b>&lt;</"+name+">", "<"+name+`|"a|<b|"<|/`+name+"|.")
		if names.Raw(name, false) != api.Data {
			t.Errorf("%s is raw", name)
		}
	}
	mustAll(t, "a<plaintext>b</plaintext>&lt;<p>", `"a|<plaintext|"b</plaintext>&lt;<p>|.`)
	mustAll(t, "</title>a<p></style><b></plaintext><i>", `/title|"a|<p|/style|<b|/plaintext|<i|.`)
	mustAll(t, "<title><style></title><style><title></style><p>", `<title|"<style>|/title|<style|"<title>|/style|<p|.`)
	mustAll(t, "<title>a</title><p></title>&lt;", `<title|"a|/title|<p|/title|"<|.`)
	mustAll(t, "<!doctype html><html><!--a-->b</></html>", `!html|<html|-a|"b|/html|.`)
}

// P13.2: the last one is EOF, and no other one is.
func TestAllEndsWithEOF(t *testing.T) {
	for _, s := range []string{"", "<p", "</p", "</>", "</></>", "</><p a='", "<p a=\"<title>"} {
		l := All(s)
		if len(l) != 1 || !token.Same(l[0], eof) {
			t.Errorf("All(%q): %s", s, shown(l))
		}
	}
	texts([]string{"<", "/", ">", "a", "title", " ", "&lt;", "!", "\xFF"}, 4, func(s string) {
		l := All(s)
		for i, x := range l {
			if (x.Kind == api.EOF) != (i == len(l)-1) || !token.Right(x) {
				t.Fatalf("All(%q): %s", s, shown(l))
			}
		}
		if len(l) == 0 || len(l) > len(s)+1 {
			t.Fatalf("All(%q): %d tokens", s, len(l))
		}
	})
}

// texts calls f with every text of up to n of these parts.
func texts(parts []string, n int, f func(string)) {
	row := []string{""}
	for range n + 1 {
		var longer []string
		for _, s := range row {
			f(s)
			for _, p := range parts {
				longer = append(longer, s+p)
			}
		}
		row = longer
	}
}

// plain goes by the promise's words, one after the other: each < is held against the whole of tag.Read and mark.Read, each & is read by itself, and the end of a raw text is looked for in the text's Lower.
type plain struct {
	s       string
	at      int
	mode    int
	foreign bool
	last    string
}

func (p *plain) end() api.Token {
	p.at = len(p.s)
	return eof
}

func (p *plain) next() api.Token {
	switch {
	case p.at == len(p.s):
		return eof
	case p.mode == api.Plaintext:
		from := p.at
		p.at = len(p.s)
		return api.Token{Kind: api.Text, Text: p.s[from:]}
	case p.mode == api.Data:
		return p.data()
	}
	return p.raw()
}

func (p *plain) data() api.Token {
	if x, to, ok := tag.Read(p.s, p.at); ok {
		p.at = to
		if x.Kind == api.Start {
			p.last = x.Name
		}
		return x
	} else if to != p.at {
		return p.end()
	}
	if x, to, ok := mark.Read(p.s, p.at, p.foreign); ok {
		p.at = to
		if x.Kind == 0 {
			return p.next()
		}
		return x
	}
	var out strings.Builder
	for begin := p.at; p.at < len(p.s); {
		if p.at > begin && p.s[p.at] == '<' {
			_, to, ok := tag.Read(p.s, p.at)
			_, _, marked := mark.Read(p.s, p.at, p.foreign)
			if ok || to != p.at || marked {
				break
			}
		}
		p.one(&out)
	}
	return api.Token{Kind: api.Text, Text: out.String()}
}

// one takes a reference, or one byte.
func (p *plain) one(out *strings.Builder) {
	if p.s[p.at] != '&' {
		out.WriteByte(p.s[p.at])
		p.at++
		return
	}
	x, to := ref.Read(p.s, p.at, false)
	out.WriteString(x)
	p.at = to
}

func (p *plain) raw() api.Token {
	stop := p.stop()
	if stop == p.at {
		p.mode = api.Data
		x, to, ok := tag.Read(p.s, p.at)
		if !ok {
			return p.end()
		}
		p.at = to
		return x
	}
	var out strings.Builder
	if p.mode == api.Rawtext {
		out.WriteString(p.s[p.at:stop])
		p.at = stop
	}
	for p.at < stop {
		p.one(&out)
	}
	return api.Token{Kind: api.Text, Text: out.String()}
}

// stop tells where a raw text ends.
func (p *plain) stop() int {
	first := len(p.s)
	if p.last == "" {
		return first
	}
	for _, sign := range append([]string{"/", ">"}, allSpaces...) {
		if n := strings.Index(chars.Lower(p.s[p.at:]), "</"+p.last+sign); n >= 0 {
			first = min(first, p.at+n)
		}
	}
	return first
}

// mustBePlain goes through s by both, where modes and foreign are told by the numbers of turns, one ahead of each Next; the last one's hold.
func mustBePlain(t *testing.T, s string, turns ...int) {
	t.Helper()
	l, p := New(s), &plain{s: s, mode: api.Data}
	for count := 0; ; count++ {
		if count < len(turns) && turns[count] != 0 {
			mode, foreign := turns[count]%10, turns[count] >= 10
			l.Set(mode)
			l.Foreign(foreign)
			p.mode, p.foreign = mode, foreign
		}
		from := l.At()
		x, want := l.Next(), p.next()
		if !token.Same(x, want) || l.At() != p.at || !token.Right(x) {
			t.Fatalf("%q, %v, token %d: %q at %d, want %q at %d", s, turns, count, token.Text(x), l.At(), token.Text(want), p.at)
		}
		if x.Kind == api.EOF {
			return
		}
		if l.At() <= from || count >= len(s) {
			t.Fatalf("%q, %v, token %d: from %d to %d", s, turns, count, from, l.At())
		}
	}
}

// P13.1, P13.2, P13.3: every short text of these parts against the promise's words, in every mode, behind a Start and behind none.
func TestAgainstAPlainCall(t *testing.T) {
	for _, c := range []struct {
		parts []string
		n     int
	}{
		{[]string{"<", "/", "!", "?", ">", "p", "P", " ", "&"}, 5},
		{[]string{"<p>", "</p>", "</P ", "</", "p", ">", "/", "x", "&lt;"}, 4},
		{[]string{"<", "<p", "</p", " a='", "'", "=", ">", "&amp", ";", "\xFF"}, 4},
		{[]string{"<!--", "-->", "-", "!", ">", "</>", "a", "<![CDATA[", "]]>", "<p>"}, 4},
		{[]string{"&", "#", "6", "x", ";", "lt", "<", "p", "<p>"}, 5},
		{[]string{"</p", "</px", "\n", "\u00e9", "\xC3", "<", ">"}, 5},
	} {
		texts(c.parts, c.n, func(s string) {
			mustBePlain(t, s)
			mustBePlain(t, s, 10+api.Data)
			mustBePlain(t, s, api.Rcdata)
			mustBePlain(t, s, api.Rawtext)
			mustBePlain(t, s, 0, api.Rcdata, api.Data, api.Rawtext)
			for _, mode := range allModes {
				mustBePlain(t, "<p>"+s, 0, mode)
				mustBePlain(t, "<p>"+s, 0, 10+mode, 0, mode)
			}
		})
	}
}

// P13.3: whole texts cut off at each of their places, in each mode.
func TestCutOff(t *testing.T) {
	for _, s := range []string{
		"<!DOCTYPE html><title>a &amp; b</title><p class='x' id=y>c < d</p></><!--e--!><?f><br/>g&#65;</1>",
		"<p>a<![CDATA[b]]>c<![CDATA[]]></p x='>'>&NotEqualTilde;</P\n>&#x41;<",
		"<p>\u00e9<\u20ac</\u00e9>&eacute;</p\u00e9></p\t\U0001F600>\xFF</p/>",
	} {
		for n := range len(s) + 1 {
			for _, mode := range allModes {
				for _, foreign := range []int{0, 10} {
					mustBePlain(t, s[:n], mode+foreign)
					mustBePlain(t, s[:n], 0, mode+foreign)
					mustBePlain(t, s[:n], 0, mode, 0, mode+foreign, mode, mode)
				}
			}
		}
	}
	want := []string{".", `"<|.`, ".", ".", ".", ".", ".", "<title|.", `<title|"a|.`, `<title|"a<|.`, `<title|"a</|.`, `<title|"a</t|.`, `<title|"a</ti|.`, `<title|"a</tit|.`, `<title|"a</titl|.`, `<title|"a</title|.`, `<title|"a|.`, `<title|"a|/title|.`}
	const s = "<title>a</title >"
	for n := range len(s) + 1 {
		mustAll(t, s[:n], want[n])
	}
}

// P13.3: every byte in every part.
func TestOfEveryByteInEveryPart(t *testing.T) {
	for c := range 256 {
		b := string([]byte{byte(c)})
		for _, s := range []string{
			b, "a" + b, "<" + b, "<" + b + "p>", "</" + b, "</" + b + "p>", "<p" + b + ">", "<p>" + b + "</p>", "<p></p" + b, "<p>a</p" + b + ">b", "<p>a<" + b + "/p></p>", "<p>a</" + b + "p></p>", "<p>a</" + b + ">b", "&" + b + "amp;", "&am" + b + "p;", "&amp" + b + "<p>", "&#6" + b + ";", "a<!" + b + "-->", "a<![CDATA[" + b + "]]>b", "</" + b + ">" + b,
		} {
			for _, mode := range allModes {
				mustBePlain(t, s, mode)
				mustBePlain(t, s, 0, mode)
				mustBePlain(t, s, 10+api.Data, 0, mode)
			}
		}
	}
}

// P13.3: a mode that is set anew ahead of each Next, in all rows of modes.
func TestModesInTurn(t *testing.T) {
	var turns [][]int
	row := [][]int{nil}
	for range 4 {
		var longer [][]int
		for _, l := range row {
			for _, mode := range []int{0, api.Data, api.Rcdata, api.Rawtext, 10 + api.Data, 10 + api.Rawtext} {
				longer = append(longer, append(append([]int{}, l...), mode))
			}
		}
		row = longer
		turns = append(turns, row...)
	}
	for _, s := range []string{"<p>a<b>&lt;</b>c</p>d", "<p></p><p>a</p", "a<p></b></><![CDATA[x]]></p><b>", "<b>&amp;<p>&amp;</b>&amp;</p>&amp;", "<p><b x='</p>'>y</p z"} {
		for _, l := range turns {
			mustBePlain(t, s, l...)
		}
	}
}

// R1, P13.3: long texts end, and in time.
func TestLong(t *testing.T) {
	const n = 1 << 19
	for _, one := range []string{"<", "&", "</", "&#", "&a<", "\xFF", "</ti", "</titlex"} {
		s := strings.Repeat(one, n)
		for _, mode := range rawModes {
			l := behind("title", s, mode)
			x := l.Next()
			want := s
			if mode == api.Rcdata {
				want = ref.All(s, false)
			}
			if x.Kind != api.Text || x.Text != want || l.At() != len(s)+7 {
				t.Errorf("%q, mode %d: %d bytes, at %d", one, mode, len(x.Text), l.At())
			}
			l = New(s)
			l.Set(mode)
			if x := l.Next(); x.Text != want || l.At() != len(s) {
				t.Errorf("%q, mode %d, no Start: %d bytes, at %d", one, mode, len(x.Text), l.At())
			}
		}
		if strings.HasPrefix(one, "</") {
			continue
		}
		if l := All(s); len(l) != 2 || l[0].Text != ref.All(s, false) {
			t.Errorf("%q: %d tokens", one, len(l))
		}
	}
	if l := All(strings.Repeat("</", n)); len(l) != 2 || l[0].Kind != api.Comment {
		t.Errorf("%d tokens", len(l))
	}
	if l := All(strings.Repeat("</>", n)); len(l) != 1 {
		t.Errorf("%d tokens", len(l))
	}
	if l := All(strings.Repeat("a</>", n)); len(l) != n+1 {
		t.Errorf("%d tokens", len(l))
	}
	for _, one := range []string{"<p>", "</p>", "<?>", "<!>"} {
		if l := All(strings.Repeat(one, n)); len(l) != n+1 {
			t.Errorf("%q: %d tokens", one, len(l))
		}
	}
	for _, s := range []string{"a<p" + strings.Repeat(" a", n), "a<p b='" + strings.Repeat("<p>", n), strings.Repeat("<", n) + "p"} {
		if l := All(s); len(l) != 2 {
			t.Errorf("%.10q: %d tokens", s, len(l))
		}
	}
	name := strings.Repeat("aB", n)
	mustRest(t, behind(name, "x</"+name[1:]+"></"+name+">", api.Rawtext), `"x</`+name[1:]+">|/"+strings.ToLower(name)+"|.")
}

// R1: a Text ends ahead of a long comment or tag without reading that through, so that modes set between do not make it slow.
func TestTextsAheadOfLongOnes(t *testing.T) {
	const n = 1 << 16
	for _, long := range []string{"<!--", "<![CDATA[", "<!doctype "} {
		l := New("<q>" + strings.Repeat("a"+long+"</q/ >", n))
		l.Foreign(true)
		l.Next()
		for range n {
			l.Set(api.Data)
			l.Next()
			l.Set(api.Rawtext)
			if x := l.Next(); x.Text != long {
				t.Fatalf("%q", token.Text(x))
			}
			if x := l.Next(); x.Kind != api.End {
				t.Fatalf("%q", token.Text(x))
			}
		}
		mustEnd(t, l, len(l.s))
	}
}

// Two lexers, of one text and of two, have nothing to do with each other.
func TestSideBySide(t *testing.T) {
	const s = "<p>a<i>&lt;</p><![CDATA[x]]>"
	a, b, c := New(s), New(s), New("</p>x</i>")
	mustTell(t, a, "<p", 3)
	if b.At() != 0 || c.At() != 0 {
		t.Errorf("At: %d, %d", b.At(), c.At())
	}
	a.Set(api.Rawtext)
	a.Foreign(true)
	mustTell(t, b, "<p", 3)
	c.Set(api.Rawtext)
	mustTell(t, b, `"a`, 4)
	mustTell(t, a, `"a<i>&lt;`, 11)
	mustTell(t, b, "<i", 7)
	mustTell(t, c, `"</p>x</i>`, 9)
	b.Set(api.Rcdata)
	mustTell(t, a, "/p", 15)
	mustTell(t, b, `"<</p><![CDATA[x]]>`, len(s))
	mustTell(t, a, `"x`, len(s))
	mustEnd(t, a, len(s))
	mustEnd(t, b, len(s))
	mustEnd(t, c, 9)
}

// R2: what is told is no piece of what was given, and no two lists share memory.
func TestMemory(t *testing.T) {
	s := strings.Repeat("<!doctype abc>def<p ghi=jkl m>nop&lt;</p><!--qrs--><title>tuv</title><style>wxy</style>", 2) + "<plaintext>zzz"
	from := uintptr(unsafe.Pointer(unsafe.StringData(s)))
	own := func(text string) int {
		if text == "" {
			return 0
		}
		if at := uintptr(unsafe.Pointer(unsafe.StringData(text))); at >= from && at < from+uintptr(len(s)) {
			t.Errorf("%q is a piece of what was given", text)
		}
		return 1
	}
	count := 0
	for _, x := range All(s) {
		count += own(x.Name) + own(x.Text)
		for _, a := range x.Attrs {
			count += own(a.Name) + own(a.Value)
		}
	}
	if count != 2*15+2 {
		t.Errorf("%d texts", count)
	}
	l := New(s)
	l.Set(api.Plaintext)
	own(l.Next().Text)
	a, b := All("<p a=1 b=2><p a=1 b=2>"), All("<p a=1 b=2><p a=1 b=2>")
	a[0].Attrs[0].Value = "x"
	a[0].Attrs = append(a[0].Attrs, api.Attr{Name: "c"})
	a[0].Name = "q"
	if shown(a[1:]) != "<p a=1 b=2|." || shown(b) != "<p a=1 b=2|<p a=1 b=2|." {
		t.Errorf("%s, %s", shown(a), shown(b))
	}
}

// R2: a token that the caller changed does not change what the lexer knows.
func TestTokensAreTheCallers(t *testing.T) {
	l := New("<p a=1>x</q></p>")
	x := l.Next()
	x.Name, x.Kind, x.Attrs[0].Name = "q", api.End, "b"
	l.Set(api.Rawtext)
	mustTell(t, l, `"x</q>`, 12)
	mustTell(t, l, "/p", 16)
}

// R4: the same is told each time.
func TestSameEachTime(t *testing.T) {
	const s = "<title>a<b>&lt;</title>c</>d<!--e--><p a=1 b=2/>"
	want := shown(All(s))
	for range 5 {
		if got := shown(All(s)); got != want {
			t.Errorf("%s, want %s", got, want)
		}
	}
}

// R5: texts that are made of one piece of memory, so that bytes stand right behind each: they are not read.
func TestBytesBehindTheTextAreNotRead(t *testing.T) {
	for _, whole := range []string{"a<p>", "a</p>", "a<!--b-->", "a&amp;&#65;", "<title>a</title>", "</>a</>"} {
		for n := range len(whole) + 1 {
			if got, want := shown(All(whole[:n])), shown(All(strings.Clone(whole[:n]))); got != want {
				t.Errorf("All(%q): %s, want %s", whole[:n], got, want)
			}
		}
	}
}
