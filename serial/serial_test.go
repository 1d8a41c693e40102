package serial

import (
	"testing"

	"arbour/api"
)

func TestRunOfTheChapter(t *testing.T) {
	must(t, doc(el("p", text("a < b"))), "<p>a &lt; b</p>")
}

func TestExamplesOfTheChapter(t *testing.T) {
	must(t, doc(el("br")), "<br>")
	must(t, el("script", text("a < b && c > \"d\"\u00a0")), "a < b && c > \"d\"\u00a0")
}

// TestKinds has each Kind as the top one and below it, without kids and with them.
func TestKinds(t *testing.T) {
	below := func(kind int) string {
		switch kind {
		case api.DoctypeNode:
			return "<!DOCTYPE n>"
		case api.Element:
			return `<n a="1"><i>x</i></n>`
		case api.TextNode:
			return "T&amp;"
		case api.CommentNode:
			return "<!--T&-->"
		case api.Content:
			return "<i>x</i>"
		}
		return ""
	}
	for _, kind := range kinds() {
		n := full(kind, "n", el("i", text("x")))
		must(t, api.Tree{Kind: kind}, "")
		must(t, full(kind, "n"), "")
		must(t, n, "<i>x</i>")
		for _, top := range kinds() {
			must(t, full(top, "m", n), below(kind))
			must(t, full(top, "m", text("<"), n, n, comment("c")), "&lt;"+below(kind)+below(kind)+"<!--c-->")
			must(t, full(top, "m", el("b", n), text("y")), "<b>"+below(kind)+"</b>y")
		}
	}
}

// TestWhatAKindDoesNotName: a name and a namespace that would say more of an element say nothing of another node.
func TestWhatAKindDoesNotName(t *testing.T) {
	for _, kind := range kinds() {
		if kind == api.Element {
			continue
		}
		must(t, full(kind, "script", text("<")), "&lt;")
		must(t, full(kind, "plaintext", text("<")), "&lt;")
		mustBe(t, full(kind, "noscript", text("<")), "&lt;", "&lt;")
		must(t, full(kind, "template", text("<"), content(text("x"))), "&lt;x")
		must(t, full(kind, "br", text("x")), "x")
	}
	for name, want := range map[string]string{"script": "&lt;", "plaintext": "&lt;", "template": "&lt;", "br": "&lt;"} {
		must(t, doc(full(api.Content, name, text("<"))), want)
	}
	must(t, doc(full(api.Element, "p", text("x"))), `<p a="1">x</p>`)
	must(t, doc(full(api.TextNode, "p", el("b"))), "T&amp;")
	must(t, doc(full(api.CommentNode, "p", el("b"))), "<!--T&-->")
	must(t, doc(full(api.DoctypeNode, "p", el("b"))), "<!DOCTYPE p>")
	must(t, doc(full(api.Document, "p", el("b"))), "")
}

func TestPages(t *testing.T) {
	mustAll(t, []row{
		{doc(), ""},
		{doc(doctype("html"), comment(" c "), el("html", el("head", el("title", text("a&b"))), el("body", with(el("p", text("x"), el("br"), text("y")), "a", "1")), comment("d"))),
			`<!DOCTYPE html><!-- c --><html><head><title>a&amp;b</title></head><body><p a="1">x<br>y</p></body><!--d--></html>`},
		{el("p", el("b", el("i", text("1")), text("2")), text("3"), el("i")), "<b><i>1</i>2</b>3<i></i>"},
		{el("p", el("b", el("i", el("u"))), el("s")), "<b><i><u></u></i></b><s></s>"},
		{el("p", el("p", el("p"), el("p")), el("p")), "<p><p></p><p></p></p><p></p>"},
		{el("p", text("a"), text(""), text("<"), text("b")), "a&lt;b"},
		{el("p", text("&"), text("amp;")), "&amp;amp;"},
		{el("p", text("\xc2"), text("\xa0")), "\xc2\xa0"},
		{el("p", text("\u00a0")), "&nbsp;"},
		{el("p", text(`"`)), `"`},
		{el("pre", text("\nx")), "\nx"},
		{el("p", el("pre", text("\n\nx")), el("textarea", text("\n"))), "<pre>\n\nx</pre><textarea>\n</textarea>"},
	})
}

func TestCommentsAndDoctypes(t *testing.T) {
	for _, s := range []string{"", "x", " ", "-->", "--", "<p>", "&", "&amp;", "\u00a0", `"`, "<!--", "\xff\xc2", "\x00", "\n", ">", "html"} {
		must(t, doc(comment(s)), "<!--"+s+"-->")
		must(t, doc(doctype(s)), "<!DOCTYPE "+s+">")
		must(t, el("script", comment(s), doctype(s)), "<!--"+s+"--><!DOCTYPE "+s+">")
		must(t, el("p", svg("g", doctype(s), comment(s))), "<g><!DOCTYPE "+s+"><!--"+s+"--></g>")
	}
}

func TestNames(t *testing.T) {
	for _, name := range []string{"p", "", "P", "h1", "foreignObject", "a b", "<", ">", "&", `"`, "\u00a0", "\xff", "\xc2", "\x00", "x/", "é", "BR", "br ", "Script", "TEMPLATE", "template "} {
		for _, ns := range []int{api.HTML, api.SVG, 0, 3, -1} {
			n := of(ns, el(name, text("<"), content(text("&"))))
			must(t, doc(n), "<"+name+">&lt;&amp;</"+name+">")
			must(t, doc(n, n), "<"+name+">&lt;&amp;</"+name+"><"+name+">&lt;&amp;</"+name+">")
			must(t, n, "&lt;&amp;")
		}
	}
}

func TestAttributes(t *testing.T) {
	mustAll(t, []row{
		{doc(el("p")), "<p></p>"},
		{doc(with(el("p"), "a", "1")), `<p a="1"></p>`},
		{doc(with(el("p"), "a", "")), `<p a=""></p>`},
		{doc(with(el("p"), "", "")), `<p =""></p>`},
		{doc(with(el("p"), "b", "1", "a", "2", "c", "3")), `<p b="1" a="2" c="3"></p>`},
		{doc(with(el("p"), "a", "1", "a", "2", "a", "1")), `<p a="1" a="2" a="1"></p>`},
		{doc(with(el("p"), "a", "&\u00a0\"<>'")), "<p a=\"&amp;&nbsp;&quot;<>'\"></p>"},
		{doc(with(el("p"), "&\u00a0\"<>'", "x")), "<p &\u00a0\"<>'=\"x\"></p>"},
		{doc(with(el("p"), "\xff", "\xff\xc2")), "<p \xff=\"\xff\xc2\"></p>"},
		{doc(with(el("p"), "a", "\n\x00 ")), "<p a=\"\n\x00 \"></p>"},
		{doc(with(el("br"), "a", "<\"")), `<br a="<&quot;">`},
		{doc(with(svg("g"), "viewBox", "&")), `<g viewBox="&amp;"></g>`},
		{doc(with(svg("br", text("x")), "a", "1", "b", "2")), `<br a="1" b="2">x</br>`},
		{doc(with(el("script", text("&")), "src", "&")), `<script src="&amp;">&</script>`},
		{doc(with(el("template", content(text("x"))), "a", `"`)), `<template a="&quot;">x</template>`},
		{with(el("p", text("x")), "a", "1"), "x"},
		{doc(api.Tree{Kind: api.Element, Name: "p", Attrs: []api.Attr{{Name: "a"}}}), `<p a=""></p>`},
	})
}

// TestNilAndEmpty: lists without items are alike (R4).
func TestNilAndEmpty(t *testing.T) {
	for _, name := range []string{"p", "br", "script", "template"} {
		x := el(name)
		x.Kids, x.Attrs = []api.Tree{}, []api.Attr{}
		must(t, x, "")
		if a, b := Text(doc(x)), Text(doc(el(name))); a != b {
			t.Errorf("%s: %q and %q", name, a, b)
		}
	}
	must(t, api.Tree{Kind: api.Content, Kids: []api.Tree{}}, "")
	must(t, doc(el("template", api.Tree{Kind: api.Content, Kids: []api.Tree{}})), "<template></template>")
	must(t, api.Tree{}, "")
}
