package mason

import (
	"strings"
	"testing"

	"arbour/api"
	"arbour/arena"
	"arbour/context"
	"arbour/lexer"
	"arbour/replay"
	"arbour/scribe"
	"arbour/tree"
	"arbour/utf"
)

// byHand parses by Feed, token by token, with each Text cut into its runes, if that is asked.
func byHand(t *testing.T, b []byte, scripting bool, c *api.Context, cuts bool) string {
	t.Helper()
	m := engine(t, scripting, c)
	l := lexer.New(utf.Prepare(b))
	if c != nil {
		l.Set(context.Lexer(*c, scripting))
	}
	for !m.Done() {
		l.Foreign(m.Foreign())
		x := l.Next()
		pieces := []api.Token{x}
		if cuts && x.Kind == api.Text {
			pieces = nil
			for _, r := range x.Text {
				pieces = append(pieces, text(string(r)))
			}
		}
		told := 0
		for _, y := range pieces {
			m.Feed(y)
			told = max(told, m.Lexer())
		}
		if told != 0 {
			l.Set(told)
		}
	}
	return m.shown()
}

// all parses b at once.
func all(t *testing.T, b []byte, scripting bool, c *api.Context) *arena.Arena {
	t.Helper()
	if c == nil {
		return Parse(b, scripting)
	}
	a, why := Fragment(b, scripting, *c)
	if why != api.OK {
		t.Fatalf("%q in %v: %v", b, *c, why)
	}
	return a
}

// written does what the scribe answers of b.
func written(t *testing.T, b []byte, scripting bool, c *api.Context) *arena.Arena {
	t.Helper()
	l := scribe.Parse(b, scripting)
	if c != nil {
		l, _ = scribe.Fragment(b, scripting, *c)
	}
	a, n, why := replay.Do(l)
	if why != api.OK {
		t.Fatalf("%q in %v: operation %d of %d: %v", b, c, n, len(l), why)
	}
	return a
}

// mustParse holds Parse or Fragment against Feed, and against the scribe, and asks that no more comes of it than may be.
func mustParse(t *testing.T, s string, scripting bool, c *api.Context) string {
	t.Helper()
	a := all(t, []byte(s), scripting, c)
	got := shown(a)
	for _, cuts := range []bool{false, true} {
		if want := byHand(t, []byte(s), scripting, c, cuts); got != want {
			t.Errorf("%q in %v:\n%s, by Feed\n%s", s, c, got, want)
		}
	}
	mustBeSame(t, s, a, written(t, []byte(s), scripting, c))
	whole, _ := a.Pure(0)
	// How many there may be is the promise of a later layer (W3).
	if most := (len(s)+1)*(len(s)+60) + 20; tree.Count(whole) > most || a.Len() > 4*most {
		t.Errorf("%q in %v: %d nodes of %d bytes", s, c, a.Len(), len(s))
	}
	return strings.TrimPrefix(got, "quirky ")
}

func TestParse(t *testing.T) {
	for _, r := range []row{
		{``, `html(head()body())`},
		{`x`, `html(head()body('x'))`},
		{`<!DOCTYPE html>`, `?html?html(head()body())`},
		{`<!doctype X><!--c--><p`, `?x?!c!html(head()body())`},
		{"\xef\xbb\xbf<!doctype html>\r\na\r\rb\x00", "?html?html(head()body('a\n\nb\uFFFD'))"},
		{"\xff<p>\xc3(", "html(head()body('\uFFFD'p('\uFFFD(')))"},
		{`<title>a<b>&lt;</title>b`, `html(head(title('a<b><'))body('b'))`},
		{`<script>a<b>&lt;</script>b`, `html(head(script('a<b>&lt;'))body('b'))`},
		{`<style></styles></style ><base><link>`, `html(head(style('</styles>')base()link())body())`},
		{`<textarea>` + "\n\n" + `</p></textarea>x`, "html(head()body(textarea('\n</p>')'x'))"},
		{"<pre>\n\nx</pre>\n", "html(head()body(pre('\nx')'\n'))"},
		{"<pre>\r\nx", "html(head()body(pre('x')))"},
		{"<pre>&#10;x", "html(head()body(pre('x')))"},
		{`<xmp><p></xmp><p>`, `html(head()body(xmp('<p>')p()))`},
		{`<plaintext></plaintext>&lt;`, `html(head()body(plaintext('</plaintext>&lt;')))`},
		{`<noscript><b></noscript>x`, `html(head()body(noscript(b())b('x')))`},
		{`<svg><title><b></title></b>x`, `html(head()body(~svg(~title(b()'x'))))`},
		{`<svg><![CDATA[<p>]]></svg><![CDATA[q]]>`, `html(head()body(~svg('<p>')![CDATA[q]]!))`},
		{`<svg><desc><![CDATA[<p>]]></desc></svg>`, `html(head()body(~svg(~desc('<p>'))))`},
		{`<svg><desc><p><![CDATA[<p>]]></desc></svg>`, `html(head()body(~svg(~desc(p(![CDATA[<p!']]>')))))`},
		{`<svg><style><b>x`, `html(head()body(~svg(~style())b('x')))`},
		{`<table><tr><td>1<table>&amp;`, `html(head()body(table(tbody(tr(td('1&'table()))))))`},
		{`<P A=1 a=2 B>x</P>`, `html(head()body(p.a=1.b('x')))`},
		{`<svg viewBox=1><foreignObject/><CLIPPATH>`, `html(head()body(~svg.viewBox=1(~foreignObject()~clipPath())))`},
	} {
		if got := mustParse(t, r.in, false, nil); got != r.want {
			t.Errorf("%q: %s, want %s", r.in, got, r.want)
		}
	}
	for _, r := range []row{
		{`<noscript><b></noscript><p><noscript><i>`, `html(head(noscript('<b>'))body(p(noscript('<i>'))))`},
		{`<body><noscript>&lt;<p></noscript>&lt;`, `html(head()body(noscript('&lt;<p>')'<'))`},
	} {
		if got := mustParse(t, r.in, true, nil); got != r.want {
			t.Errorf("%q with scripting: %s, want %s", r.in, got, r.want)
		}
	}
}

func TestFragment(t *testing.T) {
	for _, r := range []row{
		{`title # <b>&lt;</title>`, `'<b><</title>'`},
		{`textarea # ` + "\n<b>&lt;", "'\n<b><'"},
		{`script # a&lt;<b></script>`, `'a&lt;<b></script>'`},
		{`style # <b>`, `'<b>'`},
		{`xmp # <b></xmp>`, `'<b></xmp>'`},
		{`plaintext # <b>&lt;`, `'<b>&lt;'`},
		{`noscript # <b>&lt;`, `b('<')`},
		{`~title # <b>&lt;`, `b('<')`},
		{`~script # <b>&lt;`, `b('<')`},
		{`~style # <g>&lt;`, `~g('<')`},
		{`~svg # <![CDATA[<p>]]>x`, `'<p>x'`},
		{`~desc # <![CDATA[<p>]]><p><![CDATA[x]]>`, `'<p>'p(![CDATA[x]]!)`},
		{`p # <![CDATA[x]]>`, `![CDATA[x]]!`},
		{`pre # ` + "\nx", "'\nx'"},
		{`div # `, ``},
		{`div # <title><b></title><b>x`, `title('<b>')b('x')`},
		{`td # <td>x</table>y`, `'xy'`},
		{`tr # <td>x`, `td('x')`},
		{`Title # <b>x`, `b('x')`},
	} {
		c, s, _ := strings.Cut(r.in, "# ")
		if got := mustParse(t, s, false, part(strings.TrimSpace(c))); got != "html("+r.want+")" {
			t.Errorf("%q: %s, want %s", r.in, got, r.want)
		}
	}
	if got := mustParse(t, "<b>&lt;", true, part("noscript")); got != "html('<b>&lt;')" {
		t.Errorf("noscript with scripting: %s", got)
	}
}

// markup are pieces of what the elder chapters read.
var markup = []string{
	"x", " ", "\n", "\r\n", "\x00", "é", "\xff", "&lt;", "&#65;", "&notit;", "&", "<", "<p", "</", "<!", "<?x>", "<!--c-->", "<!---", "-->", "<![CDATA[d]]>", "<!doctype html>", "<!DOCTYPE x>",
	"<b>", "<b x=1>", "</b>", "<i>", "</i>", "<a>", "</a>", "<nobr>", "<p>", "</p>", "<div>", "</div>", "<h1>", "</h2>", "<li>", "<ul>", "</ul>", "<dd>", "<form>", "</form>", "<button>", "</button>", "<object>", "</object>",
	"<table>", "</table>", "<tbody>", "<tr>", "</tr>", "<td>", "</td>", "<input type=hidden>", "<template>", "</template>", "<svg>", "</svg>", "<g/>", "<title>", "</title>", "<foreignObject viewBox=1>", "<desc>", "<font size=1>", "</font>",
	"<pre>\n", "<textarea>\n", "</textarea>", "<script>", "</script>", "<style>", "</style>", "<xmp>", "</xmp>", "<plaintext>", "<noscript>", "</noscript>", "<br>", "</br>", "<img/>", "<html a=1>", "<head>", "</head>", "<body b=2>", "</body>", "</html>",
	" a='1' ", "=\"", ">", "'", "/>", "<P Q='", "]]>",
}

func TestDrawnTexts(t *testing.T) {
	d := dice(2221)
	for range 5000 {
		s := ""
		for range d.draw(24) {
			s += markup[d.draw(len(markup))]
		}
		var c *api.Context
		if d.draw(2) == 0 {
			c = part(d.of(contexts))
		}
		mustParse(t, s, d.draw(2) == 0, c)
	}
}

// TestDrawnLongTexts: what is drawn meets more often, if there is more of less.
func TestDrawnLongTexts(t *testing.T) {
	d := dice(22)
	for range 150 {
		few := make([]string, 12)
		for i := range few {
			few[i] = markup[d.draw(len(markup))]
		}
		s := ""
		for range 120 {
			s += few[d.draw(len(few))]
		}
		mustParse(t, s, d.draw(2) == 0, nil)
		mustParse(t, s, d.draw(2) == 0, part(d.of(contexts)))
	}
}

func TestDrawnBytes(t *testing.T) {
	d := dice(8)
	for range 3000 {
		var b []byte
		for range d.draw(40) {
			// Mostly what markup is made of, so that tags come of it.
			b = append(b, `<</>ab="'&!- ptd`[d.draw(16)])
			if d.draw(8) == 0 {
				b = append(b, byte(d.draw(256)))
			}
		}
		mustParse(t, string(b), d.draw(2) == 0, nil)
		mustParse(t, string(b), d.draw(2) == 0, part(d.of(contexts)))
	}
}
