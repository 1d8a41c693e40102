package scribe

import (
	"slices"
	"strings"
	"testing"

	"arbour/api"
	"arbour/context"
	"arbour/lexer"
	"arbour/op"
	"arbour/replay"
	"arbour/tree"
	"arbour/utf"
)

// byHand parses by Feed, token by token, with each Text cut where it may be cut, if that is asked.
func byHand(t *testing.T, b []byte, scripting bool, c *api.Context, cuts bool) (string, bool) {
	t.Helper()
	s := engine(t, scripting, c)
	l := lexer.New(utf.Prepare(b))
	if c != nil {
		l.Set(context.Lexer(*c, scripting))
	}
	p := replay.New()
	for !s.Done() {
		l.Foreign(s.Foreign())
		x := l.Next()
		pieces := []api.Token{x}
		if cuts && x.Kind == api.Text {
			pieces = nil
			for _, r := range x.Text {
				pieces = append(pieces, text(string(r)))
			}
		}
		told := 0
		for _, y := range pieces {
			for _, o := range s.Feed(y) {
				if why := p.Do(o); why != api.OK {
					t.Fatalf("%q: %+v: %v", b, o, why)
				}
			}
			told = max(told, s.Lexer())
		}
		if told != 0 {
			l.Set(told)
		}
	}
	return shown(p.Arena()), p.Arena().Quirky()
}

// all parses b at once.
func all(t *testing.T, b []byte, scripting bool, c *api.Context) []api.Op {
	t.Helper()
	if c == nil {
		return Parse(b, scripting)
	}
	l, why := Fragment(b, scripting, *c)
	if why != api.OK {
		t.Fatalf("%q in %v: %v", b, *c, why)
	}
	return l
}

// mustParse holds Parse or Fragment against Feed, and asks that all operations are right, and no more than may be.
func mustParse(t *testing.T, s string, scripting bool, c *api.Context) string {
	t.Helper()
	l := all(t, []byte(s), scripting, c)
	got, odd := built(t, s, l)
	for _, cuts := range []bool{false, true} {
		if want, quirky := byHand(t, []byte(s), scripting, c, cuts); got != want || odd != quirky {
			t.Errorf("%q in %v:\n%s, quirky %v, by Feed\n%s, quirky %v", s, c, got, odd, want, quirky)
		}
	}
	if i := slices.IndexFunc(l, func(o api.Op) bool { return !op.Right(o) }); i >= 0 {
		t.Errorf("%q in %v: %+v is not right", s, c, l[i])
	}
	a, _, _ := replay.Do(l)
	whole, _ := a.Pure(0)
	// How many there may be is the promise of a later layer (W3).
	if most := (len(s)+1)*(len(s)+60) + 20; tree.Count(whole) > most || len(l) > 4*most {
		t.Errorf("%q in %v: %d nodes, %d operations of %d bytes", s, c, tree.Count(whole), len(l), len(s))
	}
	return got
}

func TestParse(t *testing.T) {
	for _, r := range []row{
		{``, `html(head()body())`},
		{`x`, `html(head()body('x'))`},
		{`<!DOCTYPE html>`, `?html?html(head()body())`},
		{`<!doctype X><!--c--><p`, `?x?!c!html(head()body())`},
		{"\xef\xbb\xbf<!doctype html>\r\na\r\rb\x00", "?html?html(head()body('a\n\nb\uFFFD'))"},
		{"\xff<p>\xc3(", "html(head()body('\uFFFD'p('\uFFFD(')))"},
		{`<title>a<b>&lt;</title>b`, `html(head(title('a<b><'))body('b'))`},
		{`<script>a<b>&lt;</script>b`, `html(head(script('a<b>&lt;'))body('b'))`},
		{`<style></styles></style ><base><link>`, `html(head(style('</styles>')base()link())body())`},
		{`<textarea>` + "\n\n" + `</p></textarea>x`, "html(head()body(textarea('\n</p>')'x'))"},
		{"<pre>\n\nx</pre>\n", "html(head()body(pre('\nx')'\n'))"},
		{"<pre>\r\nx", "html(head()body(pre('x')))"},
		{"<pre>&#10;x", "html(head()body(pre('x')))"},
		{`<xmp><p></xmp><p>`, `html(head()body(xmp('<p>')p()))`},
		{`<plaintext></plaintext>&lt;`, `html(head()body(plaintext('</plaintext>&lt;')))`},
		{`<noscript><b></noscript>x`, `html(head()body(noscript(b())b('x')))`},
		{`<svg><title><b></title></b>x`, `html(head()body(~svg(~title(b()'x'))))`},
		{`<svg><![CDATA[<p>]]></svg><![CDATA[q]]>`, `html(head()body(~svg('<p>')![CDATA[q]]!))`},
		{`<svg><desc><![CDATA[<p>]]></desc></svg>`, `html(head()body(~svg(~desc('<p>'))))`},
		{`<svg><desc><p><![CDATA[<p>]]></desc></svg>`, `html(head()body(~svg(~desc(p(![CDATA[<p!']]>')))))`},
		{`<svg><style><b>x`, `html(head()body(~svg(~style())b('x')))`},
		{`<table><tr><td>1<table>&amp;`, `html(head()body(table(tbody(tr(td('1&'table()))))))`},
		{`<P A=1 a=2 B>x</P>`, `html(head()body(p.a=1.b('x')))`},
		{`<svg viewBox=1><foreignObject/><CLIPPATH>`, `html(head()body(~svg.viewBox=1(~foreignObject()~clipPath())))`},
	} {
		if got := mustParse(t, r.in, false, nil); got != r.want {
			t.Errorf("%q: %s, want %s", r.in, got, r.want)
		}
	}
	for _, r := range []row{
		{`<noscript><b></noscript><p><noscript><i>`, `html(head(noscript('<b>'))body(p(noscript('<i>'))))`},
		{`<body><noscript>&lt;<p></noscript>&lt;`, `html(head()body(noscript('&lt;<p>')'<'))`},
	} {
		if got := mustParse(t, r.in, true, nil); got != r.want {
			t.Errorf("%q with scripting: %s, want %s", r.in, got, r.want)
		}
	}
}

func TestFragment(t *testing.T) {
	for _, r := range []row{
		{`title # <b>&lt;</title>`, `'<b><</title>'`},
		{`textarea # ` + "\n<b>&lt;", "'\n<b><'"},
		{`script # a&lt;<b></script>`, `'a&lt;<b></script>'`},
		{`style # <b>`, `'<b>'`},
		{`xmp # <b></xmp>`, `'<b></xmp>'`},
		{`plaintext # <b>&lt;`, `'<b>&lt;'`},
		{`noscript # <b>&lt;`, `b('<')`},
		{`~title # <b>&lt;`, `b('<')`},
		{`~script # <b>&lt;`, `b('<')`},
		{`~style # <g>&lt;`, `~g('<')`},
		{`~svg # <![CDATA[<p>]]>x`, `'<p>x'`},
		{`~desc # <![CDATA[<p>]]><p><![CDATA[x]]>`, `'<p>'p(![CDATA[x]]!)`},
		{`p # <![CDATA[x]]>`, `![CDATA[x]]!`},
		{`pre # ` + "\nx", "'\nx'"},
		{`div # `, ``},
		{`div # <title><b></title><b>x`, `title('<b>')b('x')`},
		{`td # <td>x</table>y`, `'xy'`},
		{`tr # <td>x`, `td('x')`},
		{`Title # <b>x`, `b('x')`},
	} {
		c, s, _ := strings.Cut(r.in, "# ")
		if got := mustParse(t, s, false, part(strings.TrimSpace(c))); got != "html("+r.want+")" {
			t.Errorf("%q: %s, want %s", r.in, got, r.want)
		}
	}
	if got := mustParse(t, "<b>&lt;", true, part("noscript")); got != "html('<b>&lt;')" {
		t.Errorf("noscript with scripting: %s", got)
	}
}

// markup are pieces of what the elder chapters read.
var markup = []string{
	"x", " ", "\n", "\r\n", "\x00", "é", "\xff", "&lt;", "&#65;", "&notit;", "&", "<", "<p", "</", "<!", "<?x>", "<!--c-->", "<!---", "-->", "<![CDATA[d]]>", "<!doctype html>", "<!DOCTYPE x>",
	"<b>", "<b x=1>", "</b>", "<i>", "</i>", "<a>", "</a>", "<nobr>", "<p>", "</p>", "<div>", "</div>", "<h1>", "</h2>", "<li>", "<ul>", "</ul>", "<dd>", "<form>", "</form>", "<button>", "</button>", "<object>", "</object>",
	"<table>", "</table>", "<tbody>", "<tr>", "</tr>", "<td>", "</td>", "<input type=hidden>", "<template>", "</template>", "<svg>", "</svg>", "<g/>", "<title>", "</title>", "<foreignObject viewBox=1>", "<desc>", "<font size=1>", "</font>",
	"<pre>\n", "<textarea>\n", "</textarea>", "<script>", "</script>", "<style>", "</style>", "<xmp>", "</xmp>", "<plaintext>", "<noscript>", "</noscript>", "<br>", "</br>", "<img/>", "<html a=1>", "<head>", "</head>", "<body b=2>", "</body>", "</html>",
	" a='1' ", "=\"", ">", "'", "/>", "<P Q='", "]]>",
}

func TestDrawnTexts(t *testing.T) {
	d := dice(2121)
	for range 5000 {
		s := ""
		for range d.draw(24) {
			s += markup[d.draw(len(markup))]
		}
		var c *api.Context
		if d.draw(2) == 0 {
			c = part(d.of(contexts))
		}
		mustParse(t, s, d.draw(2) == 0, c)
	}
}

func TestDrawnBytes(t *testing.T) {
	d := dice(7)
	for range 3000 {
		var b []byte
		for range d.draw(40) {
			// Mostly what markup is made of, so that tags come of it.
			b = append(b, `<</>ab="'&!- ptd`[d.draw(16)])
			if d.draw(8) == 0 {
				b = append(b, byte(d.draw(256)))
			}
		}
		mustParse(t, string(b), d.draw(2) == 0, nil)
		mustParse(t, string(b), d.draw(2) == 0, part(d.of(contexts)))
	}
}

// TestOperationsSoFar: what is done to a tree can be done up to any operation.
func TestOperationsSoFar(t *testing.T) {
	l := Parse([]byte("<!doctype x><title>a</title><p>1<b>2<i>3<table>4<tr>5</b>6<td>7<template><td>8</template><svg><g>9</table></i>0"), false)
	for n := range l {
		if why := replay.Check(l[:n]); why != api.OK {
			t.Errorf("the first %d: %v", n, why)
		}
	}
}
