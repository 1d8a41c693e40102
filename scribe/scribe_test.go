package scribe

import (
	"testing"

	"arbour/api"
	"arbour/context"
	"arbour/replay"
)

func TestRunOfTheChapter(t *testing.T) {
	got, quirky := built(t, "the run", Parse([]byte("<p>1<b>2<i>3</b>4</i>5</p>"), false))
	if want := "html(head()body(p('1'b('2'i('3'))i('4')'5')))"; got != want || !quirky {
		t.Errorf("%s, quirky %v, want %s", got, quirky, want)
	}
}

func TestExamplesOfTheChapter(t *testing.T) {
	s := New(false)
	got, quirky := built(t, "EOF", s.Feed(eof))
	if got != "html(head()body())" || !quirky || !s.Done() || s.Mode() != context.InBody {
		t.Errorf("EOF: %s, quirky %v, done %v, in mode %d", got, quirky, s.Done(), s.Mode())
	}
	if p, why := Part(false, api.Context{NS: api.HTML}); p != nil || why != api.ErrArg {
		t.Errorf("Part of an empty Name: %v, %v", p, why)
	}
}

// TestWhatCannotBeAContext: it is refused, by Part and by Fragment, whatever else is asked.
func TestWhatCannotBeAContext(t *testing.T) {
	for _, c := range []api.Context{
		{}, {NS: api.HTML}, {NS: api.SVG}, {Name: "p"}, {NS: 3, Name: "p"}, {NS: -1, Name: "p"}, {NS: 1 << 40, Name: "p"},
		{NS: api.HTML, Name: "p", Attrs: attrsOf("a=1 a=2")}, {NS: api.SVG, Name: "g", Attrs: attrsOf("a b a")},
	} {
		for _, scripting := range []bool{false, true} {
			if p, why := Part(scripting, c); p != nil || why != api.ErrArg {
				t.Errorf("Part in %v: %v, %v", c, p, why)
			}
			for _, b := range [][]byte{nil, {}, []byte("<p>x")} {
				if l, why := Fragment(b, scripting, c); len(l) != 0 || why != api.ErrArg {
					t.Errorf("Fragment in %v: %v, %v", c, l, why)
				}
			}
		}
	}
	for _, c := range []api.Context{{NS: api.HTML, Name: "p", Attrs: attrsOf("a=1 b=1")}, {NS: api.SVG, Name: "\xff"}, {NS: api.HTML, Name: "\x00 <"}} {
		l, why := Fragment([]byte("x"), false, c)
		if got, _ := built(t, "a fragment", l); why != api.OK || got != "html('x')" {
			t.Errorf("Fragment in %v: %s, %v", c, got, why)
		}
	}
}

// TestFirstFeedOfAPart: it begins with the html's operations, whatever is fed, and no other one does.
func TestFirstFeedOfAPart(t *testing.T) {
	for _, x := range append(tokens(`. "x <p </p -c !html <html ??`), api.Token{}) {
		p := newPlayer(t, false, part("div"))
		for again := range 2 {
			first := p.s.Feed(x)
			if a, _, why := replay.Do(first); again == 0 && (why != api.OK || a.Len() < 2) {
				t.Errorf("%v: %v: %v", x, first, why)
			} else if again == 1 && len(first) > 0 && why == api.OK {
				t.Errorf("%v again: %v", x, first)
			}
		}
	}
	p, _ := Part(false, *part("div"))
	if got, _ := built(t, "a first token that is not right", p.Feed(api.Token{})); got != "html()" {
		t.Errorf("a first token that is not right: %s", got)
	}
}

// TestBehindDone: nothing comes of what is fed then, and nothing changes.
func TestBehindDone(t *testing.T) {
	for _, way := range []string{``, `<p`, `<title`, `<table "x`, `<svg <title`, `<template <td`, `</body`, `</html`, `<svg </body`, `<pre`, `<plaintext`} {
		for _, c := range []*api.Context{nil, part("td"), part("template"), part("~svg")} {
			p := newPlayer(t, false, c)
			for _, x := range append(tokens(way), eof) {
				p.feed(way, x)
			}
			was, tree := p.state(), p.shown()
			if !p.s.Done() {
				t.Errorf("%s: not done", way)
			}
			for _, x := range append(afterEach(), api.Token{}) {
				if l := p.s.Feed(x); len(l) != 0 || p.state() != was {
					t.Errorf("%s: %v behind EOF: %v, %s, was %s", way, x, l, p.state(), was)
				}
			}
			if p.shown() != tree {
				t.Errorf("%s: %s, was %s", way, p.shown(), tree)
			}
		}
	}
}

// TestWrongTokens: they are passed by, so that whatever waits for the next token still does; but nothing is told the lexer.
func TestWrongTokens(t *testing.T) {
	wrong := []api.Token{
		{}, {Kind: -1}, {Kind: 7, Text: "x"}, {Kind: api.Start}, {Kind: api.Start, Name: "P"}, {Kind: api.Start, Name: "1"}, {Kind: api.Start, Name: "p "},
		{Kind: api.Start, Name: "title", Text: "x"}, {Kind: api.Start, Name: "b", Attrs: attrsOf("a=1 a=2")}, {Kind: api.Start, Name: "b", Attrs: []api.Attr{{}}},
		{Kind: api.End}, {Kind: api.End, Name: "p", Self: true}, {Kind: api.End, Name: "p", Attrs: attrsOf("a")}, {Kind: api.End, Name: "</p"}, {Kind: api.Text}, {Kind: api.Text, Text: "x", Name: "x"},
		{Kind: api.Comment, Text: "c", Name: "c"}, {Kind: api.Doctype, Name: "HTML"}, {Kind: api.Doctype, Name: "html", Text: "x"}, {Kind: api.EOF, Text: "x"}, {Kind: api.EOF, Name: "x"},
	}
	for _, way := range ways {
		right := append(tokens(way), tokens(`"^x <i </b "y .`)...)
		one, all := newPlayer(t, false, nil), newPlayer(t, false, nil)
		for _, x := range right {
			for _, y := range wrong {
				all.feed("wrong ones", y)
				if all.s.Lexer() != 0 {
					t.Errorf("%s: %v tells the lexer %d", way, y, all.s.Lexer())
				}
			}
			one.feed(way, x)
			all.feed(way, x)
			if one.state() != all.state() {
				t.Errorf("%s: %s, want %s", way, all.state(), one.state())
			}
		}
		if one.shown() != all.shown() || one.p.Arena().Quirky() != all.p.Arena().Quirky() {
			t.Errorf("%s: %s, want %s", way, all.shown(), one.shown())
		}
	}
}
