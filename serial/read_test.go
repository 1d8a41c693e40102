package serial

import (
	"testing"
	"unicode/utf8"

	"arbour/api"
	"arbour/mason"
	"arbour/tree"
)

func page(s string, scripting bool) api.Tree {
	return mason.Tree(mason.Parse([]byte(s), scripting), false)
}

func fragment(t *testing.T, s, name string) api.Tree {
	t.Helper()
	a, why := mason.Fragment([]byte(s), false, api.Context{NS: api.HTML, Name: name})
	if why != api.OK {
		t.Fatal(why)
	}
	return mason.Tree(a, true)
}

const head, foot = "<html><head></head><body>", "</body></html>"

// TestPagesOfElderChapters: what their runs and examples read.
func TestPagesOfElderChapters(t *testing.T) {
	for _, r := range []struct{ in, want string }{
		{"", head + foot},
		{"\xf0\x9fA", head + "\ufffdA" + foot},
		{"\xc0\x80", head + "\ufffd\ufffd" + foot},
		{"x\r\r\n", head + "x\n\n" + foot},
		{"&notit; &notin; &ampersand &cent", head + "\u00acit; \u2209 &amp;ersand &amp;cent" + foot},
		{"&amp;lt &#65;&#x41 &#;", head + "&amp;lt AA &amp;#;" + foot},
		{"<p a='&notit;'>", head + `<p a="&amp;notit;"></p>` + foot},
		{"<A b=1 B=2 c/>x", head + `<a b="1" c="">x</a>` + foot},
		{"<b></p x>", head + "<b><p></p></b>" + foot},
		{"x<p", head + "x" + foot},
		{"<!--a--!>b", "<!--a-->" + head + "b" + foot},
		{"<?x>", "<!--?x-->" + head + foot},
		{"<!DOCTYPE>", "<!DOCTYPE >" + head + foot},
		{"<!DocType HTML x>", "<!DOCTYPE html>" + head + foot},
		{"<title>a<b>&lt;</title>", "<html><head><title>a&lt;b&gt;&lt;</title></head><body>" + foot},
		{"<script>a<b>&lt;</script>", "<html><head><script>a<b>&lt;</script></head><body>" + foot},
		{"a < b", head + "a &lt; b" + foot},
		{"<p>1<b>2<i>3</b>4</i>5</p>", head + "<p>1<b>2<i>3</i></b><i>4</i>5</p>" + foot},
		{"<p>1<b>2<p>3", head + "<p>1<b>2</b></p><p><b>3</b></p>" + foot},
		{"<template>x<p></template>y", "<html><head><template>x<p></p></template></head><body>y" + foot},
		{"<svg viewbox=1><br/>", head + `<svg viewBox="1"></svg><br>` + foot},
		{"<svg><script>&lt;</script><title><br>&nbsp;", head + "<svg><script>&lt;</script><title><br>&nbsp;</title></svg>" + foot},
		{"<table>x<tr><td>y", head + "x<table><tbody><tr><td>y</td></tr></tbody></table>" + foot},
		{"<xmp>&</xmp><plaintext><&", head + "<xmp>&</xmp><plaintext><&</plaintext>" + foot},
		{"<p title='\"<>&'>\"<b", head + `<p title="&quot;<>&amp;">"</p>` + foot},
		{"<body a=1 c=><img src=x>z</body><!--e-->", `<html><head></head><body a="1" c=""><img src="x">z</body><!--e--></html>`},
	} {
		if got := Text(page(r.in, false)); got != r.want {
			t.Errorf("%q: %q, want %q", r.in, got, r.want)
		}
	}
	for _, r := range []struct{ in, plain, scripting string }{
		{"<body><noscript>&lt;<b>", head + "<noscript>&lt;<b></b></noscript>" + foot, head + "<noscript>&lt;<b></noscript>" + foot},
	} {
		if got := Inner(page(r.in, false), false); got != r.plain {
			t.Errorf("%q: %q, want %q", r.in, got, r.plain)
		}
		if got := Inner(page(r.in, true), true); got != r.scripting {
			t.Errorf("%q, scripting: %q, want %q", r.in, got, r.scripting)
		}
	}
	for _, r := range []struct{ in, name, want string }{
		{"<td>x", "tr", "<td>x</td>"}, {"x<b>", "title", "x&lt;b&gt;"}, {"<p>1<p>2", "div", "<p>1</p><p>2</p>"}, {"", "div", ""}, {"x", "template", "x"},
	} {
		if got := Text(fragment(t, r.in, r.name)); got != r.want {
			t.Errorf("%q in %s: %q, want %q", r.in, r.name, got, r.want)
		}
	}
}

// markup are pieces of what the elder chapters read.
var markup = []string{
	"x", " ", "\n", "\r\n", "\x00", "é", "\xff", "\xc2", "\u00a0", "&lt;", "&nbsp;", "&#65;", "&", "<", "<p", "</", "<!", "<?x>", "<!--c-->", "<![CDATA[d]]>", "<!doctype html>", "<!DOCTYPE x>",
	"<b>", "<b x='\"'>", "</b>", "<i>", "</i>", "<p>", "</p>", "<div a=&quot;>", "</div>", "<li>", "<table>", "</table>", "<tr>", "<td>", "<template>", "</template>", "<svg>", "</svg>", "<g/>", "<br/>", "<title>", "</title>", "<desc>",
	"<textarea>\n", "</textarea>", "<script>", "</script>", "<style>", "</style>", "<xmp>", "<plaintext>", "<noscript>", "</noscript>", "<img/>", "</body>", "</html>", " a='1' ", "=\"", ">", "'", "]]>", "\xf0\x9f",
}

// TestWhatIsWrittenIsRightAndReadAgain: any bytes are a page, and what is written of it is right UTF-8, and a page (W5).
func TestWhatIsWrittenIsRightAndReadAgain(t *testing.T) {
	d := dice(77)
	for range 3000 {
		s := ""
		for range d.draw(30) {
			s += d.of(markup)
		}
		for _, scripting := range []bool{false, true} {
			x := page(s, scripting)
			mustBe(t, x, innerByWords(x, false), innerByWords(x, true))
			written := Inner(x, scripting)
			if !utf8.ValidString(written) || !tree.Right(page(written, scripting)) {
				t.Errorf("%q: %q", s, written)
			}
		}
	}
}

var plainNames = []string{"article", "b", "code", "div", "em", "i", "main", "section", "small", "span", "strong", "u", "br"}

// plainText is a text that comes back as it is: not empty, right UTF-8, without U+0000 and CR.
func plainText(d *dice) string {
	s := d.of([]string{"a", " ", "\n", "<", "&"})
	for range d.draw(6) {
		s += d.of([]string{"a", "é", "&", "&lt", ";", "<", ">", `"`, "'", "\u00a0", " ", "\n", "\t", "</b>", "<p>", "<!--", "\ufeff", "\ufffd", "\U0001f600", "&#65;", "amp;"})
	}
	return s
}

// plainKids are elements that may stand within each other as they like, and texts, no two side by side.
func plainKids(d *dice, steps int) []api.Tree {
	var kids []api.Tree
	for range d.draw(5) {
		if d.draw(2) == 0 && (len(kids) == 0 || kids[len(kids)-1].Kind != api.TextNode) {
			kids = append(kids, text(plainText(d)))
			continue
		}
		n := plainAttrs(d, el(d.of(plainNames)))
		if n.Name != "br" && steps > 0 {
			n.Kids = plainKids(d, steps-1)
		}
		kids = append(kids, n)
	}
	return kids
}

func plainAttrs(d *dice, n api.Tree) api.Tree {
	for _, name := range []string{"a", "b-1", "class"} {
		switch d.draw(6) {
		case 0:
			n = with(n, name, "")
		case 1:
			n = with(n, name, plainText(d))
		}
	}
	return n
}

// TestPlainTreesComeBack: they are read again from what they are written as (W4).
func TestPlainTreesComeBack(t *testing.T) {
	d := dice(4)
	for range 3000 {
		x := doc(doctype("html"), el("html", el("head"), plainAttrs(&d, el("body", plainKids(&d, 5)...))))
		for _, scripting := range []bool{false, true} {
			written := Inner(x, scripting)
			if !tree.Same(page(written, scripting), x) {
				t.Fatalf("%s is written as %q, and comes back as %s", brief(x), written, brief(page(written, scripting)))
			}
		}
	}
}
