package serial

import (
	"testing"

	"arbour/api"
)

var voids = []string{"area", "base", "br", "col", "embed", "hr", "img", "input", "link", "meta", "source", "wbr"}

func TestVoids(t *testing.T) {
	for _, name := range voids {
		must(t, doc(el(name)), "<"+name+">")
		must(t, doc(el(name, text("x"), el("b"), comment("c"))), "<"+name+">")
		must(t, doc(el(name, el(name, el("p"))), text("y")), "<"+name+">y")
		must(t, doc(el("p", with(el(name, text("x")), "a", "1"), el(name)), text("y")), "<p><"+name+` a="1"><`+name+"></p>y")
		must(t, el(name), "")
		must(t, el(name, text("<"), el(name), el("b")), "&lt;<"+name+"><b></b>")
		must(t, el("script", el(name), text("<")), "<"+name+"><")
		for _, ns := range []int{api.SVG, 0, 3, -1} {
			must(t, doc(of(ns, el(name))), "<"+name+"></"+name+">")
			must(t, doc(of(ns, el(name, text("<"), el("b")))), "<"+name+">&lt;<b></b></"+name+">")
			must(t, of(ns, el(name, text("<"))), "&lt;")
		}
	}
	for _, name := range []string{"keygen", "param", "track", "frame", "basefont", "bgsound", "image", "command", "p", "b", "br1", "b r", "Br", ""} {
		must(t, doc(el(name)), "<"+name+"></"+name+">")
		must(t, doc(el(name, text("x"))), "<"+name+">x</"+name+">")
	}
}

// mustRaw asks of texts right below name, and deeper: raw tells whether the first ones are as they are, without scripting and with it.
func mustRaw(t *testing.T, name string, raw, scripting bool) {
	t.Helper()
	const whole, escaped = "<&>\"\u00a0", `&lt;&amp;&gt;"&nbsp;`
	as := map[bool]string{true: whole, false: escaped}
	for _, r := range []struct {
		in           api.Tree
		before, then string
	}{
		{el(name, text(whole)), "", ""},
		{doc(el(name, text(whole))), "<" + name + ">", "</" + name + ">"},
		{el("style", el(name, text(whole))), "<" + name + ">", "</" + name + ">"},
		{svg("script", el(name, text(whole))), "<" + name + ">", "</" + name + ">"},
		{el(name, el("b", text(whole)), text(whole)), "<b>" + escaped + "</b>", ""},
		{el(name, svg(name, text(whole)), text(whole)), "<" + name + ">" + escaped + "</" + name + ">", ""},
		{el(name, content(text(whole)), text(whole), comment(whole)), escaped, "<!--" + whole + "-->"},
		{el(name, svg("script", text(whole)), text(whole), el("p", text("<"))), "<script>" + escaped + "</script>", "<p>&lt;</p>"},
		{el(name, with(el("b", text("<")), "a", "<&"), text(whole)), `<b a="<&amp;">&lt;</b>`, ""},
	} {
		mustBe(t, r.in, r.before+as[raw]+r.then, r.before+as[scripting]+r.then)
	}
	two := doc(el(name, text("<"), text("&")), text("<"))
	ends := map[bool]string{true: "<&", false: "&lt;&amp;"}
	mustBe(t, two, "<"+name+">"+ends[raw]+"</"+name+">&lt;", "<"+name+">"+ends[scripting]+"</"+name+">&lt;")
	for _, ns := range []int{api.SVG, 0, 3, -1} {
		must(t, of(ns, el(name, text(whole))), escaped)
		must(t, doc(of(ns, el(name, text(whole)))), "<"+name+">"+escaped+"</"+name+">")
	}
}

func TestRaw(t *testing.T) {
	for _, name := range []string{"script", "style", "xmp", "plaintext"} {
		mustRaw(t, name, true, true)
	}
	mustRaw(t, "noscript", false, true)
	for _, name := range []string{"title", "textarea", "p", "pre", "iframe", "noembed", "noframes", "listing", "Script", "STYLE", "noScript", "plaintext ", ""} {
		mustRaw(t, name, false, false)
	}
}

func TestRawWithinRaw(t *testing.T) {
	mustBe(t, doc(el("noscript", el("style", text("<")), text("<"), el("noscript", text("<")), el("p", text("<")))),
		"<noscript><style><</style>&lt;<noscript>&lt;</noscript><p>&lt;</p></noscript>",
		"<noscript><style><</style><<noscript><</noscript><p>&lt;</p></noscript>")
	must(t, doc(el("script", text("</script><p>"))), "<script></script><p></script>")
	must(t, doc(el("plaintext", text("a"), el("b", text("<"), el("xmp", text("<"))))), "<plaintext>a<b>&lt;<xmp><</xmp></b></plaintext>")
}

func TestTemplates(t *testing.T) {
	x, y := text("x<"), el("p", text("y"))
	mustAll(t, []row{
		{el("template"), ""},
		{el("template", content()), ""},
		{el("template", content(x, y)), "x&lt;<p>y</p>"},
		{el("template", x, content(y), x), "<p>y</p>"},
		{el("template", content(x), content(), y, content(y), comment("c"), content(text("z"))), "x&lt;<p>y</p>z"},
		{el("template", x, y, comment("c"), doctype("d"), doc(x), el("template", content(x))), ""},
		{doc(el("template")), "<template></template>"},
		{doc(el("template", content())), "<template></template>"},
		{doc(el("template", content(x, y))), "<template>x&lt;<p>y</p></template>"},
		{doc(el("template", x, content(y), x), x), "<template><p>y</p></template>x&lt;"},
		{doc(el("template", content(x), x, content(y))), "<template>x&lt;<p>y</p></template>"},
		{doc(el("template", x, y)), "<template></template>"},
		{doc(el("template", content(el("template", content(x), y), y), y)), "<template><template>x&lt;</template><p>y</p></template>"},
		{el("template", content(el("template", y, content(el("template", content(), y))))), "<template><template></template></template>"},
		{el("template", el("p", content(x)), content(el("p", content(y), x))), "<p><p>y</p>x&lt;</p>"},
		{el("template", content(content(x), y), content(content(content(y)))), "x&lt;<p>y</p><p>y</p>"},
		{el("template", doc(content(x)), api.Tree{Kind: 9, Kids: []api.Tree{content(x)}}), ""},
		{svg("template", x, content(y), x), "x&lt;<p>y</p>x&lt;"},
		{doc(svg("template", x, content(y), x)), "<template>x&lt;<p>y</p>x&lt;</template>"},
		{doc(of(0, el("template", x, content(y)))), "<template>x&lt;<p>y</p></template>"},
		{doc(of(3, el("template", x))), "<template>x&lt;</template>"},
		{svg("template", el("template", x, content(y))), "<template><p>y</p></template>"},
		{el("template", svg("template", x), content(svg("template", x))), "<template>x&lt;</template>"},
		{doc(el("Template", x, content(y))), "<Template>x&lt;<p>y</p></Template>"},
	})
}

func TestContentsElsewhere(t *testing.T) {
	x, y := text("x<"), el("p", text("y"))
	mustAll(t, []row{
		{content(), ""},
		{content(x, y), "x&lt;<p>y</p>"},
		{content(content(x), y, content(content(y, content()), x)), "x&lt;<p>y</p><p>y</p>x&lt;"},
		{doc(content(x), y), "x&lt;<p>y</p>"},
		{el("p", text("a"), content(x, y), text("b")), "ax&lt;<p>y</p>b"},
		{doc(el("p", content(x, y), y)), "<p>x&lt;<p>y</p><p>y</p></p>"},
		{doc(el("br", content(x))), "<br>"},
		{el("br", content(x)), "x&lt;"},
		{el("script", content(x), x), "x&lt;x<"},
		{content(el("script", x)), "<script>x<</script>"},
		{content(el("template", x, content(y))), "<template><p>y</p></template>"},
		{doc(comment(""), under(comment("c"), content(x)), under(text("t"), content(x)), under(doctype("d"), content(x))), "<!----><!--c-->t<!DOCTYPE d>"},
	})
}

func TestDocumentsBelow(t *testing.T) {
	x := el("p", text("x"))
	mustAll(t, []row{
		{doc(doc(x), x), "<p>x</p>"},
		{doc(x, doc(doc(x), x)), "<p>x</p>"},
		{doc(el("div", doc(x), text("a"))), "<div>a</div>"},
		{el("template", content(doc(x), x)), "<p>x</p>"},
		{el("script", doc(text("<")), text("<")), "<"},
	})
	for _, kind := range noKinds() {
		must(t, doc(api.Tree{Kind: kind, Kids: []api.Tree{x}}, x), "<p>x</p>")
		must(t, api.Tree{Kind: kind, Kids: []api.Tree{x, content(x)}}, "<p>x</p><p>x</p>")
	}
}
