package serial

import (
	"testing"

	"arbour/api"
	"arbour/mason"
)

const (
	million = 1000000
	deep    = 200000
	wide    = 200000
)

// chain is last below so many of what wrap makes.
func chain(steps int, last api.Tree, wrap func(api.Tree) api.Tree) api.Tree {
	for range steps {
		last = wrap(last)
	}
	return last
}

func mustBeGreat(t *testing.T, said string, x api.Tree, want string) {
	t.Helper()
	for _, scripting := range []bool{false, true} {
		if got := Inner(x, scripting); got != want {
			t.Errorf("%s: %d bytes, want %d", said, len(got), len(want))
		}
	}
	if Text(x) != want {
		t.Errorf("%s: Text is not Inner", said)
	}
}

func TestDeepTrees(t *testing.T) {
	b := func(n api.Tree) api.Tree { return el("b", n) }
	mustBeGreat(t, "elements", doc(chain(million, text("<"), b)), repeated(million, "<b>")+"&lt;"+repeated(million, "</b>"))
	mustBeGreat(t, "elements, the first one asked of", chain(deep+1, text("<"), b), repeated(deep, "<b>")+"&lt;"+repeated(deep, "</b>"))
	template := func(n api.Tree) api.Tree { return el("template", content(n)) }
	mustBeGreat(t, "templates", doc(chain(deep, text("x"), template)), repeated(deep, "<template>")+"x"+repeated(deep, "</template>"))
	inner := func(n api.Tree) api.Tree { return content(n) }
	mustBeGreat(t, "contents", chain(deep, text("x"), inner), "x")
	around := func(n api.Tree) api.Tree { return el("i", text("1"), n, text("2")) }
	mustBeGreat(t, "texts around", doc(chain(deep, comment("c"), around)), repeated(deep, "<i>1")+"<!--c-->"+repeated(deep, "2</i>"))
	mustBeGreat(t, "below a Void", doc(el("br", chain(deep, text("x"), b)), text("y")), "<br>y")
	foreign := func(n api.Tree) api.Tree { return svg("g", svg("br", n)) }
	mustBeGreat(t, "SVG", doc(chain(deep, el("br"), foreign), text("y")), repeated(deep, "<g><br>")+"<br>"+repeated(deep, "</br></g>")+"y")
}

func TestWideTrees(t *testing.T) {
	kids := make([]api.Tree, 0, 4*wide)
	for range wide {
		kids = append(kids, text("<"), el("b", text("x")), el("br"), comment(""))
	}
	const each = "&lt;<b>x</b><br><!---->"
	mustBeGreat(t, "kids", doc(kids...), repeated(wide, each))
	mustBeGreat(t, "kids of a kid", doc(el("p", kids...)), "<p>"+repeated(wide, each)+"</p>")
	mustBeGreat(t, "kids of a Content", el("template", content(kids...)), repeated(wide, each))
	mustBeGreat(t, "kids beside a Content", doc(el("template", append(kids, content(text("x")))...)), "<template>x</template>")
	p := el("p")
	for range wide {
		p = with(p, "a", "&")
	}
	mustBeGreat(t, "attributes", doc(p), "<p"+repeated(wide, ` a="&amp;"`)+"></p>")
}

func TestGreatTexts(t *testing.T) {
	s := repeated(million, "<&x")
	mustBeGreat(t, "a text", doc(text(s)), repeated(million, "&lt;&amp;x"))
	mustBeGreat(t, "a script", el("script", text(s)), s)
	mustBeGreat(t, "a comment", doc(comment(s)), "<!--"+s+"-->")
	mustBeGreat(t, "a doctype", doc(doctype(s)), "<!DOCTYPE "+s+">")
	mustBeGreat(t, "a name", doc(el(s)), "<"+s+"></"+s+">")
	mustBeGreat(t, "a value", doc(with(el("br"), s, s)), "<br "+s+`="`+repeated(million, "<&amp;x")+`">`)
}

// TestDeepPages: nothing is cut off of what mason makes, however deep (W3).
func TestDeepPages(t *testing.T) {
	for _, r := range []struct{ in, want string }{
		{repeated(deep, "<div>") + "x", repeated(deep, "<div>") + "x" + repeated(deep, "</div>")},
		{repeated(deep, "<b>") + "&lt;", repeated(deep, "<b>") + "&lt;" + repeated(deep, "</b>")},
		{"<p>" + repeated(deep, "<q>1"), "<p>" + repeated(deep, "<q>1") + repeated(deep, "</q>") + "</p>"},
		{"<br>" + repeated(deep, "<template>"), "<br>" + repeated(deep, "<template>") + repeated(deep, "</template>")},
	} {
		x := mason.Tree(mason.Parse([]byte(r.in), false), false)
		mustBeGreat(t, r.in[:8], x, head+r.want+foot)
	}
}

// TestListsThatShareMemory: kids that lie in the list that their parent lies in are a tree, all the same.
func TestListsThatShareMemory(t *testing.T) {
	l := []api.Tree{el("a", text("x")), el("b"), el("c")}
	l[1].Kids = l[:1]
	l[2].Kids = l[:2]
	must(t, doc(l...), "<a>x</a><b><a>x</a></b><c><a>x</a><b><a>x</a></b></c>")
	must(t, el("p", l[2], l[2]), repeated(2, "<c><a>x</a><b><a>x</a></b></c>"))
}

// ring is a list that holds itself.
func ring() api.Tree {
	l := []api.Tree{el("a"), text("x"), el("b", comment("c"))}
	l[0].Kids, l[2].Kids[0].Kids = l, l
	return doc(l...)
}

// TestListsThatHoldThemselves: no tree is as deep as that, and nothing is promised but that calls end.
func TestListsThatHoldThemselves(t *testing.T) {
	one := []api.Tree{el("p")}
	one[0].Kids = one
	inner := []api.Tree{content()}
	inner[0].Kids = inner
	tail := []api.Tree{text("x"), el("template", content())}
	tail[1].Kids[0].Kids = tail
	many := make([]api.Tree, 40)
	for i := range many {
		many[i] = el("b")
		many[i].Kids = many
	}
	for _, x := range []api.Tree{ring(), doc(one...), one[0], doc(inner...), inner[0], doc(tail...), tail[1], doc(many...), el("template", inner...), doc(el("br", one...), text("y"))} {
		Text(x)
		Inner(x, true)
	}
}
