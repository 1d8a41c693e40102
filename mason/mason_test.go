package mason

import (
	"strings"
	"testing"

	"arbour/api"
	"arbour/context"
)

func TestRunOfTheChapter(t *testing.T) {
	for _, b := range [][]byte{nil, {}} {
		for _, scripting := range []bool{false, true} {
			a := Parse(b, scripting)
			if got := show(Tree(a, false)); got != "html(head()body())" || !a.Quirky() {
				t.Errorf("Parse of nothing: %s, quirky %v", got, a.Quirky())
			}
		}
	}
}

func TestExamplesOfTheChapter(t *testing.T) {
	for _, c := range []struct{ in, where, want string }{{"<td>x", "tr", "td('x')"}, {"x", "title", "'x'"}} {
		a, why := Fragment([]byte(c.in), false, *part(c.where))
		if got := show(Tree(a, true)); got != c.want || why != api.OK || a.Quirky() {
			t.Errorf("Fragment of %q in %s: %s, %v", c.in, c.where, got, why)
		}
	}
	m := New(false)
	m.Feed(eof)
	if got := m.shown(); got != "quirky html(head()body())" || !m.Done() || m.Mode() != context.InBody {
		t.Errorf("EOF: %s, done %v, in mode %d", got, m.Done(), m.Mode())
	}
	if p, why := Part(false, api.Context{NS: api.HTML}); p != nil || why != api.ErrArg {
		t.Errorf("Part of an empty Name: %v, %v", p, why)
	}
}

// TestWhatCannotBeAContext: it is refused, by Part and by Fragment, whatever else is asked.
func TestWhatCannotBeAContext(t *testing.T) {
	for _, c := range []api.Context{
		{}, {NS: api.HTML}, {NS: api.SVG}, {Name: "p"}, {NS: 3, Name: "p"}, {NS: -1, Name: "p"}, {NS: 1 << 40, Name: "p"},
		{NS: api.HTML, Name: "p", Attrs: attrsOf("a=1 a=2")}, {NS: api.SVG, Name: "g", Attrs: attrsOf("a b a")},
	} {
		for _, scripting := range []bool{false, true} {
			if p, why := Part(scripting, c); p != nil || why != api.ErrArg {
				t.Errorf("Part in %v: %v, %v", c, p, why)
			}
			for _, b := range [][]byte{nil, {}, []byte("<p>x")} {
				if a, why := Fragment(b, scripting, c); a != nil || why != api.ErrArg {
					t.Errorf("Fragment in %v: %v, %v", c, a, why)
				}
			}
		}
	}
	for _, c := range []api.Context{{NS: api.HTML, Name: "p", Attrs: attrsOf("a=1 b=1")}, {NS: api.SVG, Name: "\xff"}, {NS: api.HTML, Name: "\x00 <"}} {
		a, why := Fragment([]byte("x"), false, c)
		if got := shown(a); why != api.OK || got != "html('x')" {
			t.Errorf("Fragment in %v: %s, %v", c, got, why)
		}
	}
}

// TestFirstArena: of a document it holds nothing ahead of the first Feed, of a Part the html.
func TestFirstArena(t *testing.T) {
	for _, scripting := range []bool{false, true} {
		if m := New(scripting); m.Arena().Len() != 1 || m.shown() != "" {
			t.Errorf("New: %d nodes, %s", m.Arena().Len(), m.shown())
		}
		for _, s := range strings.Fields(contexts) {
			m := engine(t, scripting, part(s))
			if m.Arena().Len() != 2 || m.shown() != "html()" || m.Lexer() != 0 || m.Done() {
				t.Errorf("Part in %s: %d nodes, %s, %s", s, m.Arena().Len(), m.shown(), stateOf(m))
			}
			m.Feed(api.Token{})
			if m.shown() != "html()" || m.Lexer() != 0 || m.Done() {
				t.Errorf("Part in %s: %s, %s behind a token that is not right", s, m.shown(), stateOf(m))
			}
		}
	}
}

// TestArenaBehindEachFeed: it is the same one from the beginning on, and what is fed is seen in it.
func TestArenaBehindEachFeed(t *testing.T) {
	m := New(false)
	a := m.Arena()
	for _, c := range []struct{ in, want string }{
		{`-c`, `!c!`}, {`!html`, `!c!?html?`}, {`"_`, `!c!?html?`}, {`<html,a=1`, `!c!?html?html.a=1()`}, {`<title`, `!c!?html?html.a=1(head(title()))`},
		{`"x`, `!c!?html?html.a=1(head(title('x')))`}, {`"y`, `!c!?html?html.a=1(head(title('xy')))`}, {`</title`, `!c!?html?html.a=1(head(title('xy')))`},
		{`"z`, `!c!?html?html.a=1(head(title('xy'))body('z'))`}, {`<html,b=2`, `!c!?html?html.a=1.b=2(head(title('xy'))body('z'))`},
		{`<body,c=3`, `!c!?html?html.a=1.b=2(head(title('xy'))body.c=3('z'))`}, {`<table`, `!c!?html?html.a=1.b=2(head(title('xy'))body.c=3('z'table()))`},
		// What waits in a table is seen when it is known where it stands.
		{`"v`, `!c!?html?html.a=1.b=2(head(title('xy'))body.c=3('z'table()))`}, {`</table`, `!c!?html?html.a=1.b=2(head(title('xy'))body.c=3('zv'table()))`},
		{`<b`, `!c!?html?html.a=1.b=2(head(title('xy'))body.c=3('zv'table()b()))`}, {`<p`, `!c!?html?html.a=1.b=2(head(title('xy'))body.c=3('zv'table()b(p())))`},
		{`</b`, `!c!?html?html.a=1.b=2(head(title('xy'))body.c=3('zv'table()b()p(b())))`}, {`.`, `!c!?html?html.a=1.b=2(head(title('xy'))body.c=3('zv'table()b()p(b())))`},
		{`"u`, `!c!?html?html.a=1.b=2(head(title('xy'))body.c=3('zv'table()b()p(b())))`},
	} {
		m.Feed(tokens(c.in)[0])
		if m.Arena() != a {
			t.Errorf("behind %s: another arena", c.in)
		}
		if got := shown(a); got != c.want {
			t.Errorf("behind %s: %s, want %s", c.in, got, c.want)
		}
	}
}

// TestQuirkyBehindEachFeed: a document becomes quirky with the token that leaves Initial.
func TestQuirkyBehindEachFeed(t *testing.T) {
	for s, want := range map[string]string{
		`"_ -c !html <p .`: "00000", `"_ -c !x <p .`: "00111", `-c ! !html .`: "0111", `!html !x . !y`: "0000", `"x`: "1", `<p !html .`: "111", `</p !html`: "11",
		`-c .`: "01", `. .`: "11", `?? "_ <html !html`: "0011", `!svg`: "1", `!html -c <table`: "000", `<html !html`: "11",
	} {
		m, got := New(false), ""
		for _, x := range tokens(s) {
			m.Feed(x)
			if m.Arena().Quirky() {
				got += "1"
			} else {
				got += "0"
			}
		}
		if got != want {
			t.Errorf("%s: %s, want %s", s, got, want)
		}
		p, got := engine(t, false, part("div")), ""
		for _, x := range tokens(s) {
			p.Feed(x)
			if p.Arena().Quirky() {
				got = "quirky"
			}
		}
		if got != "" {
			t.Errorf("%s: a fragment is quirky", s)
		}
	}
}

// TestBehindDone: nothing comes of what is fed then, and nothing changes.
func TestBehindDone(t *testing.T) {
	for _, way := range []string{``, `<p`, `<title`, `<table "x`, `<svg <title`, `<template <td`, `</body`, `</html`, `<svg </body`, `<pre`, `<plaintext`} {
		for _, c := range []*api.Context{nil, part("td"), part("template"), part("~svg")} {
			m := engine(t, false, c)
			for _, x := range append(tokens(way), eof) {
				m.Feed(x)
			}
			was, built, count := stateOf(m), m.shown(), m.Arena().Len()
			if !m.Done() {
				t.Errorf("%s: not done", way)
			}
			for _, x := range append(afterEach(), api.Token{}) {
				if m.Feed(x); stateOf(m) != was || m.Arena().Len() != count {
					t.Errorf("%s: %v behind EOF: %s, was %s", way, x, stateOf(m), was)
				}
			}
			if m.shown() != built {
				t.Errorf("%s: %s, was %s", way, m.shown(), built)
			}
		}
	}
}

// TestLexerBehindDone: what the last Feed told is told no more, once another one comes.
func TestLexerBehindDone(t *testing.T) {
	for way, want := range map[string]int{`<title`: api.Rcdata, `<script`: api.Rawtext, `<plaintext`: api.Plaintext} {
		for _, behind := range []string{`"x`, `-c`, `??`, `.`, `. .`} {
			m := New(false)
			m.Feed(tokens(way)[0])
			if m.Lexer() != want {
				t.Errorf("%s: the lexer is told %d, want %d", way, m.Lexer(), want)
			}
			for _, x := range tokens(behind) {
				if m.Feed(x); m.Lexer() != 0 {
					t.Errorf("%s %s: the lexer is told %d", way, behind, m.Lexer())
				}
			}
		}
	}
}

// TestWrongTokens: they are passed by, so that whatever waits for the next token still does; but nothing is told the lexer.
func TestWrongTokens(t *testing.T) {
	wrong := []api.Token{
		{}, {Kind: -1}, {Kind: 7, Text: "x"}, {Kind: api.Start}, {Kind: api.Start, Name: "P"}, {Kind: api.Start, Name: "1"}, {Kind: api.Start, Name: "p "},
		{Kind: api.Start, Name: "title", Text: "x"}, {Kind: api.Start, Name: "b", Attrs: attrsOf("a=1 a=2")}, {Kind: api.Start, Name: "b", Attrs: []api.Attr{{}}},
		{Kind: api.End}, {Kind: api.End, Name: "p", Self: true}, {Kind: api.End, Name: "p", Attrs: attrsOf("a")}, {Kind: api.End, Name: "</p"}, {Kind: api.Text}, {Kind: api.Text, Text: "x", Name: "x"},
		{Kind: api.Comment, Text: "c", Name: "c"}, {Kind: api.Doctype, Name: "HTML"}, {Kind: api.Doctype, Name: "html", Text: "x"}, {Kind: api.EOF, Text: "x"}, {Kind: api.EOF, Name: "x"},
	}
	for _, way := range ways {
		right := append(tokens(way), tokens(`"^x <i </b "y .`)...)
		one, all := New(false), New(false)
		for _, x := range right {
			for _, y := range wrong {
				if all.Feed(y); all.Lexer() != 0 {
					t.Errorf("%s: %v tells the lexer %d", way, y, all.Lexer())
				}
			}
			one.Feed(x)
			all.Feed(x)
			if stateOf(one) != stateOf(all) || one.Arena().Len() != all.Arena().Len() {
				t.Errorf("%s: %s, want %s", way, stateOf(all), stateOf(one))
			}
		}
		if one.shown() != all.shown() {
			t.Errorf("%s: %s, want %s", way, all.shown(), one.shown())
		}
	}
}
