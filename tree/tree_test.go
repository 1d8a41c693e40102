package tree

import (
	"math"
	"reflect"
	"slices"
	"strconv"
	"strings"
	"testing"
	"unsafe"

	"arbour/api"
)

func doc(kids ...api.Tree) api.Tree { return api.Tree{Kind: api.Document, Kids: kids} }

func el(name string, kids ...api.Tree) api.Tree {
	return api.Tree{Kind: api.Element, NS: api.HTML, Name: name, Kids: kids}
}

func svg(name string, kids ...api.Tree) api.Tree {
	return api.Tree{Kind: api.Element, NS: api.SVG, Name: name, Kids: kids}
}

func with(n api.Tree, attributes ...api.Attr) api.Tree {
	n.Attrs = attributes
	return n
}

func text(s string) api.Tree { return api.Tree{Kind: api.TextNode, Text: s} }

func comment(s string) api.Tree { return api.Tree{Kind: api.CommentNode, Text: s} }

func doctype(name string) api.Tree { return api.Tree{Kind: api.DoctypeNode, Name: name} }

func content(kids ...api.Tree) api.Tree { return api.Tree{Kind: api.Content, Kids: kids} }

func odd(kind int, kids ...api.Tree) api.Tree { return api.Tree{Kind: kind, Kids: kids} }

// under hangs kids below n, which is left as it was.
func under(n api.Tree, kids ...api.Tree) api.Tree {
	n.Kids = kids
	return n
}

// kinds are all Kinds, and some that are none.
func kinds() []int {
	return []int{api.Document, api.DoctypeNode, api.Element, api.TextNode, api.CommentNode, api.Content, 0, -1, 7, 9, math.MinInt, math.MaxInt}
}

// oneOf is a node of that Kind that would be right in the right place.
func oneOf(kind int) api.Tree {
	n := api.Tree{Kind: kind}
	switch kind {
	case api.Element:
		n = el("p")
	case api.TextNode:
		n = text("a")
	case api.CommentNode:
		n = comment("a")
	case api.DoctypeNode:
		n = doctype("html")
	}
	return n
}

// brief writes every field of a tree that is not too deep.
func brief(t api.Tree) string {
	out := "{" + strconv.Itoa(t.Kind) + " " + strconv.Itoa(t.NS) + " " + strconv.Quote(t.Name) + " ["
	for _, a := range t.Attrs {
		out += strconv.Quote(a.Name) + "=" + strconv.Quote(a.Value) + " "
	}
	out += "] " + strconv.Quote(t.Text)
	for _, kid := range t.Kids {
		out += " " + brief(kid)
	}
	return out + "}"
}

func mustRight(t *testing.T, x api.Tree, want bool) {
	t.Helper()
	if got := Right(x); got != want {
		t.Errorf("Right(%s): %v", brief(x), got)
	}
}

func mustSame(t *testing.T, a, b api.Tree, want bool) {
	t.Helper()
	if Same(a, b) != want || Same(b, a) != want {
		t.Errorf("Same(%s, %s): %v, and turned round %v, want %v", brief(a), brief(b), Same(a, b), Same(b, a), want)
	}
}

func mustShow(t *testing.T, x api.Tree, want ...string) {
	t.Helper()
	whole := strings.Join(append(want, ""), "\n")
	if got := Show(x); got != whole {
		t.Errorf("Show(%s):\n%s\nwant:\n%s", brief(x), got, whole)
	}
}

func mustMeasure(t *testing.T, x api.Tree, count, depth int, words string) {
	t.Helper()
	if got := Count(x); got != count {
		t.Errorf("Count(%s): %d, want %d", brief(x), got, count)
	}
	if got := Depth(x); got != depth {
		t.Errorf("Depth(%s): %d, want %d", brief(x), got, depth)
	}
	if got := Text(x); got != words {
		t.Errorf("Text(%s): %q, want %q", brief(x), got, words)
	}
}

func TestRunOfTheChapter(t *testing.T) {
	if got := Show(doc(el("p", text("a")))); got != "<p>\n  \"a\"\n" {
		t.Errorf("Show: %q", got)
	}
}

func TestExamplesOfTheChapter(t *testing.T) {
	mustSame(t, text("a"), text("b"), false)
	if got := Count(doc()); got != 1 {
		t.Errorf("Count: %d", got)
	}
}

func TestOnlyADocumentIsRight(t *testing.T) {
	for _, kind := range kinds() {
		mustRight(t, oneOf(kind), kind == api.Document)
		mustRight(t, under(oneOf(kind), el("p")), kind == api.Document)
	}
	mustRight(t, api.Tree{}, false)
	mustRight(t, el("template", content()), false)
}

// TestKindsUnderKinds puts each Kind under each other one; the parents are right where they stand.
func TestKindsUnderKinds(t *testing.T) {
	parents := []struct {
		kids  []int // the Kinds that may stand there
		place func(kid api.Tree) api.Tree
	}{
		{[]int{api.DoctypeNode, api.Element, api.CommentNode}, func(kid api.Tree) api.Tree { return doc(kid) }},
		{[]int{api.Element, api.TextNode, api.CommentNode}, func(kid api.Tree) api.Tree { return doc(el("p", kid)) }},
		{[]int{api.Element, api.TextNode, api.CommentNode}, func(kid api.Tree) api.Tree { return doc(svg("g", kid)) }},
		{[]int{api.Element, api.TextNode, api.CommentNode}, func(kid api.Tree) api.Tree { return doc(svg("template", kid)) }},
		{[]int{api.Element, api.TextNode, api.CommentNode}, func(kid api.Tree) api.Tree { return doc(el("template", content(kid))) }},
		{[]int{api.Element, api.TextNode, api.CommentNode}, func(kid api.Tree) api.Tree { return doc(el("template", content(), kid)) }},
		{[]int{api.Content}, func(kid api.Tree) api.Tree { return doc(el("template", kid)) }},
		{nil, func(kid api.Tree) api.Tree { return doc(under(doctype("html"), kid)) }},
		{nil, func(kid api.Tree) api.Tree { return doc(el("p", under(text("a"), kid))) }},
		{nil, func(kid api.Tree) api.Tree { return doc(el("p", under(comment("a"), kid))) }},
		{nil, func(kid api.Tree) api.Tree { return doc(under(comment("a"), kid)) }},
		{nil, func(kid api.Tree) api.Tree { return doc(doc(kid)) }},
		{nil, func(kid api.Tree) api.Tree { return doc(content(kid)) }},
		{nil, func(kid api.Tree) api.Tree { return doc(odd(0, kid)) }},
		{nil, func(kid api.Tree) api.Tree { return doc(odd(7, kid)) }},
	}
	for _, p := range parents {
		for _, kind := range kinds() {
			mustRight(t, p.place(oneOf(kind)), slices.Contains(p.kids, kind))
		}
	}
}

func TestDocumentsBelowAreWrong(t *testing.T) {
	for _, x := range []api.Tree{
		doc(doc()), doc(el("p"), doc()), doc(el("p", doc())), doc(el("template", doc())),
		doc(el("template", content(doc()))), doc(el("template", content(), doc())), doc(svg("g", doc(el("p")))),
	} {
		mustRight(t, x, false)
	}
}

func TestContentsOfTemplates(t *testing.T) {
	full := content(text("a"), el("p"), text("b"), comment(""))
	for _, c := range []struct {
		kid  api.Tree
		want bool
	}{
		{el("template", content()), true},
		{el("template", full, text("c"), el("p")), true},
		{el("template"), false},
		{el("template", text("a")), false},
		{el("template", el("p"), content()), false},
		{el("template", text("a"), content()), false},
		{el("template", comment(""), content()), false},
		{el("template", content(), content()), false},
		{el("template", content(), el("p"), content()), false},
		{el("template", content(content())), false},
		{el("template", el("p", content())), false},
		{el("template", content(), el("p", content())), false},
		{svg("template"), true},
		{svg("template", text("a")), true},
		{svg("template", content()), false},
		{el("Template"), true},
		{el("TEMPLATE", content()), false},
		{el("templates", content()), false},
		{el("p", content()), false},
		{content(), false},
		{content(el("p")), false},
		{el("template", content(el("template", content()))), true},
		{el("template", content(el("template"))), false},
		{el("template", content(), el("template", content())), true},
		{el("template", content(), el("template")), false},
		{el("template", content(el("template", content(el("template", content(full)))))), false},
		{el("template", content(el("template", content(el("template", full))))), true},
		{el("template", content(svg("template"), el("template", content()))), true},
	} {
		mustRight(t, doc(c.kid), c.want)
		mustRight(t, doc(el("div", text("x"), c.kid)), c.want)
	}
	for _, n := range []api.Tree{odd(0), odd(7), doctype("template"), {Kind: api.CommentNode, Name: "template", NS: api.HTML}} {
		mustRight(t, doc(under(n, content())), false)
	}
}

func TestElements(t *testing.T) {
	for _, name := range []string{"p", "P", "template", "a b", "\x00", "\xff", "<", "svg:g"} {
		for _, ns := range []int{api.HTML, api.SVG, 0, -1, 3, math.MinInt, math.MaxInt} {
			n := el(name)
			n.NS = ns
			right := ns == api.SVG || ns == api.HTML && name != "template"
			mustRight(t, doc(n), right)
			mustRight(t, doc(el("p", svg("g", n))), right)
		}
	}
	for _, n := range []api.Tree{el(""), svg(""), el("", text("a"))} {
		mustRight(t, doc(n), false)
		mustRight(t, doc(el("p", n)), false)
	}
	n := el("p")
	n.Text = "a"
	mustRight(t, doc(n), false)
	mustRight(t, doc(under(n, text("a"))), false)
	n = svg("g")
	n.Text = " "
	mustRight(t, doc(n), false)
}

func TestAttributesOfElements(t *testing.T) {
	for _, c := range []struct {
		l    []api.Attr
		want bool
	}{
		{[]api.Attr{}, true},
		{[]api.Attr{{Name: "a"}}, true},
		{[]api.Attr{{Name: "a", Value: "1"}, {Name: "b", Value: "1"}}, true},
		{[]api.Attr{{Name: "a"}, {Name: "A"}}, true},
		{[]api.Attr{{Name: ""}}, true},
		{[]api.Attr{{Name: ""}, {Name: "a"}, {Name: ""}}, false},
		{[]api.Attr{{Name: "a"}, {Name: "a"}}, false},
		{[]api.Attr{{Name: "a", Value: "1"}, {Name: "a", Value: "2"}}, false},
		{[]api.Attr{{Name: "a", Value: "1"}, {Name: "b"}, {Name: "a", Value: "1"}}, false},
		{[]api.Attr{{Name: "a", Value: "1"}, {Name: "b"}, {Name: "a", Value: "2"}}, false},
		{[]api.Attr{{Name: "b"}, {Name: "a"}, {Name: "c"}, {Name: "a"}}, false},
		{[]api.Attr{{Name: "\xff"}, {Name: "\xfe"}, {Name: "\uFFFD"}}, true},
	} {
		mustRight(t, doc(with(el("p"), c.l...)), c.want)
		mustRight(t, doc(with(svg("g", text("a")), c.l...)), c.want)
		mustRight(t, doc(el("p", with(el("template", content()), c.l...), el("p"))), c.want)
	}
	twice := make([]api.Attr, 50000)
	for i := range twice {
		twice[i].Name = strconv.Itoa(i)
	}
	mustRight(t, doc(with(el("p"), twice...)), true)
	twice[len(twice)-1].Name = "0"
	if Right(doc(with(el("p"), twice...))) {
		t.Error("Right of the first name again at the end of many: true")
	}
	same := []api.Attr{{Name: "a"}}
	mustRight(t, doc(with(el("p"), same...), with(el("p"), same...)), true)
}

func TestTexts(t *testing.T) {
	for _, c := range []struct {
		kids []api.Tree
		want bool
	}{
		{[]api.Tree{text("a")}, true},
		{[]api.Tree{text(" ")}, true},
		{[]api.Tree{text("\x00\xff")}, true},
		{[]api.Tree{text("")}, false},
		{[]api.Tree{el("p"), text("")}, false},
		{[]api.Tree{text("a"), text("b")}, false},
		{[]api.Tree{text("a"), text("a")}, false},
		{[]api.Tree{text("a"), el("p"), text("b")}, true},
		{[]api.Tree{text("a"), comment(""), text("b")}, true},
		{[]api.Tree{text("a"), comment(""), text("b"), text("c")}, false},
		{[]api.Tree{text("a"), text("b"), comment(""), text("c")}, false},
		{[]api.Tree{el("p", text("a")), text("b"), el("p", text("c"))}, true},
		{[]api.Tree{under(text("a"), comment(""))}, false},
		{[]api.Tree{under(text("a"), text("b"))}, false},
		{[]api.Tree{under(text("a"), el("p")), el("p")}, false},
	} {
		mustRight(t, doc(el("p", c.kids...)), c.want)
		mustRight(t, doc(svg("g", c.kids...)), c.want)
		mustRight(t, doc(el("template", content(c.kids...))), c.want)
		mustRight(t, doc(el("template", append([]api.Tree{content(text("x"))}, c.kids...)...)), c.want)
		if slices.ContainsFunc(c.kids, func(n api.Tree) bool { return n.Kind == api.TextNode }) {
			mustRight(t, doc(c.kids...), false)
		}
	}
}

func TestComments(t *testing.T) {
	for _, s := range []string{"", "a", "-->", "\xff"} {
		for _, x := range []api.Tree{
			doc(comment(s)), doc(comment(s), comment(s)), doc(el("p", comment(s), comment(s))),
			doc(svg("g", comment(s))), doc(el("template", content(comment(s)), comment(s))),
		} {
			mustRight(t, x, true)
		}
		for _, kind := range kinds() {
			mustRight(t, doc(under(comment(s), oneOf(kind))), false)
			mustRight(t, doc(el("p", under(comment(s), oneOf(kind)))), false)
		}
	}
}

func TestDoctypes(t *testing.T) {
	for _, name := range []string{"", "html", "HTML", "a b", "\xff"} {
		d := doctype(name)
		for _, x := range []api.Tree{doc(d), doc(d, d), doc(d, el("html"), d), doc(el("html"), comment(""), d)} {
			mustRight(t, x, true)
		}
		for _, x := range []api.Tree{
			d, doc(el("p", d)), doc(svg("g", d)), doc(el("template", d)), doc(el("template", content(d))),
			doc(el("template", content(), d)), doc(d, el("p", text("a"), d)),
		} {
			mustRight(t, x, false)
		}
		for _, kind := range kinds() {
			mustRight(t, doc(under(d, oneOf(kind))), false)
		}
	}
}

// TestFieldsThatAKindMustNotHave sets each field by itself at a node of each Kind that is right without it.
func TestFieldsThatAKindMustNotHave(t *testing.T) {
	homes := []struct {
		may   string // the fields that may be set to anything that is not empty
		n     api.Tree
		place func(n api.Tree) api.Tree
	}{
		{"", doc(), func(n api.Tree) api.Tree { return n }},
		{"", doc(el("p")), func(n api.Tree) api.Tree { return n }},
		{"Name", doctype(""), func(n api.Tree) api.Tree { return doc(n) }},
		{"Name Attrs", el("p"), func(n api.Tree) api.Tree { return doc(n) }},
		{"Name Attrs", svg("g"), func(n api.Tree) api.Tree { return doc(el("p", n)) }},
		{"Text", text("a"), func(n api.Tree) api.Tree { return doc(el("p", n)) }},
		{"Text", comment(""), func(n api.Tree) api.Tree { return doc(el("p", n)) }},
		{"Text", comment("a"), func(n api.Tree) api.Tree { return doc(n) }},
		{"", content(), func(n api.Tree) api.Tree { return doc(el("template", n)) }},
		{"", content(el("p")), func(n api.Tree) api.Tree { return doc(el("template", n)) }},
	}
	turns := []struct {
		field string
		turn  func(n *api.Tree)
	}{
		{"NS", func(n *api.Tree) { n.NS += 4 }},
		{"NS", func(n *api.Tree) { n.NS = -1 }},
		{"Name", func(n *api.Tree) { n.Name = "b" }},
		{"Attrs", func(n *api.Tree) { n.Attrs = []api.Attr{{Name: "a", Value: "1"}} }},
		{"Attrs", func(n *api.Tree) { n.Attrs = []api.Attr{{}} }},
		{"Text", func(n *api.Tree) { n.Text = "b" }},
	}
	for _, h := range homes {
		mustRight(t, h.place(h.n), true)
		for _, by := range turns {
			n := h.n
			by.turn(&n)
			mustRight(t, h.place(n), strings.Contains(h.may, by.field))
		}
		for _, ns := range []int{api.HTML, api.SVG} {
			n := h.n
			n.NS = ns
			mustRight(t, h.place(n), n.Kind == api.Element)
		}
		n := h.n
		n.Attrs = []api.Attr{}
		if len(n.Kids) == 0 {
			n.Kids = []api.Tree{}
		}
		mustRight(t, h.place(n), true)
	}
}

// chain hangs the last node so many elements deep below a Document.
func chain(steps int, last api.Tree) api.Tree {
	for range steps {
		last = el("b", last)
	}
	return doc(last)
}

func TestOneFaultIsFound(t *testing.T) {
	right := doc(doctype(""), el("p", text("a"), el("b", comment(""))), comment("c"), el("i", text("d")))
	mustRight(t, right, true)
	for _, fault := range []api.Tree{text(""), doctype(""), doc(), content(), odd(0), odd(7), el(""), el("template"), under(comment(""), comment(""))} {
		mustRight(t, chain(1, fault), false)
		mustRight(t, chain(500, fault), false)
		many := make([]api.Tree, 500)
		for i := range many {
			many[i] = el("b")
		}
		mustRight(t, doc(el("p", append(many, fault)...)), false)
		mustRight(t, doc(el("p", append([]api.Tree{fault}, many...)...)), false)
		mustRight(t, doc(el("p", many...), el("p", fault)), false)
		last := Copy(right)
		last.Kids[3].Kids[0] = fault
		mustRight(t, last, false)
	}
}

// big has a node of each Kind, and one that is none.
func big() api.Tree {
	return doc(
		doctype("html"),
		with(el("div", text("a"), el("template", content(text("b"), el("i")), text("c"))), api.Attr{Name: "x", Value: "1"}, api.Attr{Name: "y"}),
		odd(7, text("d")),
		with(svg("g", comment("e"), svg("path", text("f"))), api.Attr{Name: "z", Value: "2"}),
	)
}

// nodesOf are pointers to all nodes of *t, in order.
func nodesOf(t *api.Tree) []*api.Tree {
	all := []*api.Tree{t}
	for i := range t.Kids {
		all = append(all, nodesOf(&t.Kids[i])...)
	}
	return all
}

func TestSameAsksEachFieldOfEachNode(t *testing.T) {
	x := big()
	mustSame(t, x, big(), true)
	for at := range nodesOf(&x) {
		for i, turn := range []func(n *api.Tree){
			func(n *api.Tree) { n.Kind++ },
			func(n *api.Tree) { n.Kind = -n.Kind },
			func(n *api.Tree) { n.NS++ },
			func(n *api.Tree) { n.Name += "x" },
			func(n *api.Tree) { n.Name += "\xff" },
			func(n *api.Tree) { n.Text += "x" },
			func(n *api.Tree) { n.Attrs = append(n.Attrs, api.Attr{}) },
			func(n *api.Tree) { n.Attrs = append(n.Attrs, api.Attr{Name: "x", Value: "1"}) },
			func(n *api.Tree) { n.Attrs = append([]api.Attr{{Name: "k"}}, n.Attrs...) },
			func(n *api.Tree) { n.Kids = append(n.Kids, text("x")) },
			func(n *api.Tree) { n.Kids = append(n.Kids, api.Tree{}) },
			func(n *api.Tree) { n.Kids = append([]api.Tree{el("b")}, n.Kids...) },
			func(n *api.Tree) { n.Kids = []api.Tree{el("b", n.Kids...)} },
		} {
			y := big()
			turn(nodesOf(&y)[at])
			if Same(x, y) || Same(y, x) {
				t.Errorf("Same, node %d, turn %d: true", at, i)
			}
			mustSame(t, y, Copy(y), true)
		}
	}
}

func TestSameOfKidsAndLists(t *testing.T) {
	a, b := text("a"), el("b")
	for _, c := range []struct {
		x, y api.Tree
		want bool
	}{
		{api.Tree{}, api.Tree{}, true},
		{doc(), doc(), true},
		{doc(a, b), doc(b, a), false},
		{doc(a, b), doc(a), false},
		{doc(a), doc(a, a), false},
		{doc(a, b), doc(el("b", a)), false},
		{doc(a, b), doc(el("p", a, b)), false},
		{doc(el("b", a), b), doc(b, el("b", a)), false},
		{doc(el("b", b), b), doc(b, el("b", b)), false},
		{doc(el("b", b, b)), doc(el("b", b), b), false},
		{doc(el("b", el("b", b))), doc(el("b", b, b)), false},
		{doc(text("ab")), doc(text("a"), text("b")), false},
		{odd(7), odd(7), true},
		{odd(7), odd(8), false},
		{odd(-1, a), odd(-1, a), true},
		{odd(-1, a), odd(-1, b), false},
		{odd(0), odd(0, api.Tree{}), false},
		{under(el("p"), []api.Tree{}...), under(el("p"), nil...), true},
		{with(el("p"), []api.Attr{}...), with(el("p"), nil...), true},
		{api.Tree{Attrs: []api.Attr{}, Kids: []api.Tree{}}, api.Tree{}, true},
		{doc(api.Tree{Attrs: []api.Attr{}}), doc(api.Tree{Kids: []api.Tree{}}), true},
		{with(el("p"), api.Attr{Name: "a"}, api.Attr{Name: "b"}), with(el("p"), api.Attr{Name: "b"}, api.Attr{Name: "a"}), false},
		{with(el("p"), api.Attr{Name: "a", Value: "1"}), with(el("p"), api.Attr{Name: "a", Value: "2"}), false},
		{with(el("p"), api.Attr{Name: "a", Value: "1"}), with(el("p"), api.Attr{Name: "A", Value: "1"}), false},
		{with(el("p"), api.Attr{Name: "a"}, api.Attr{Name: "a"}), with(el("p"), api.Attr{Name: "a"}), false},
		{with(el("p"), api.Attr{Name: "a"}, api.Attr{Name: "a"}), with(el("p"), api.Attr{Name: "a"}, api.Attr{Name: "a"}), true},
		{with(text("a"), api.Attr{Name: "a"}), text("a"), false},
	} {
		mustSame(t, c.x, c.y, c.want)
	}
}

func TestCountDepthAndText(t *testing.T) {
	for _, kind := range kinds() {
		n := api.Tree{Kind: kind, NS: api.HTML, Name: "n", Text: "t", Attrs: []api.Attr{{Name: "a", Value: "v"}}}
		own := ""
		if kind == api.TextNode {
			own = "t"
		}
		mustMeasure(t, n, 1, 1, own)
		mustMeasure(t, under(n, []api.Tree{}...), 1, 1, own)
		mustMeasure(t, under(n, text("k"), n), 3, 2, own+"k"+own)
		mustMeasure(t, doc(under(n, text("k")), n, text("z")), 5, 3, own+"k"+own+"z")
	}
	low := el("a", el("b", el("c", text("x"))))
	mustMeasure(t, doc(low, text("y"), el("p")), 7, 5, "xy")
	mustMeasure(t, doc(text("y"), low, el("p")), 7, 5, "yx")
	mustMeasure(t, doc(el("p", text("")), text("y"), low), 8, 5, "yx")
	mustMeasure(t, doc(el("p", text("1"), comment("no"), text("2"), el("b", text("3")), text("4")), doctype("no"), el("template", content(text("5")), text("6"))), 13, 4, "123456")
	mustMeasure(t, under(text("a"), text("b"), under(text("c"), text("d")), text("e")), 5, 3, "abcde")
	mustMeasure(t, text("\xff\x00\u00e4"), 1, 1, "\xff\x00\u00e4")
	mustMeasure(t, api.Tree{}, 1, 1, "")
	mustMeasure(t, big(), 15, 5, "abcdf")
}

func TestShowOfEachKind(t *testing.T) {
	for _, kind := range kinds() {
		n := api.Tree{Kind: kind, NS: api.HTML, Name: "n", Text: "t", Attrs: []api.Attr{{Name: "a", Value: "v"}}}
		line := "?"
		switch kind {
		case api.DoctypeNode:
			line = "<!n>"
		case api.Element:
			line = `<n a="v">`
		case api.TextNode:
			line = `"t"`
		case api.CommentNode:
			line = "<!-- t -->"
		case api.Content:
			line = "content"
		}
		mustShow(t, n)
		mustShow(t, under(n, n), line)
		mustShow(t, under(n, under(n, n, under(n, n)), n), line, "  "+line, "  "+line, "    "+line, line)
		mustShow(t, doc(n, el("p", n)), line, "<p>", "  "+line)
		mustShow(t, doc(api.Tree{Kind: kind}), map[string]string{
			"<!n>": "<!>", `<n a="v">`: "<>", `"t"`: `""`, "<!-- t -->": "<!--  -->", "content": "content", "?": "?",
		}[line])
	}
	if got := Show(api.Tree{}); got != "" {
		t.Errorf("Show of a node alone: %q", got)
	}
}

func TestShowOfElements(t *testing.T) {
	for ns, want := range map[int]string{api.HTML: "<g>", api.SVG: "<svg:g>", 0: "<g>", 3: "<g>", -1: "<g>", math.MaxInt: "<g>"} {
		mustShow(t, doc(api.Tree{Kind: api.Element, NS: ns, Name: "g"}), want)
	}
	// A namespace is told of elements alone.
	mustShow(t, doc(api.Tree{Kind: api.DoctypeNode, NS: api.SVG, Name: "g"}, api.Tree{Kind: api.TextNode, NS: api.SVG, Name: "g", Text: "t"}), "<!g>", `"t"`)
	for _, c := range []struct {
		l    []api.Attr
		want string
	}{
		{nil, "<p>"},
		{[]api.Attr{{Name: "a", Value: "1"}}, `<p a="1">`},
		{[]api.Attr{{Name: "b", Value: ""}, {Name: "a", Value: "1"}, {Name: "b", Value: "2"}}, `<p b="" a="1" b="2">`},
		{[]api.Attr{{}}, `<p ="">`},
		{[]api.Attr{{Name: "a", Value: `"&"<>`}}, `<p a=""&"<>">`},
		{[]api.Attr{{Name: "a", Value: "1\n2\r"}}, "<p a=\"1\n2\r\">"},
		{[]api.Attr{{Name: "\xff", Value: "\x00\xfe"}}, "<p \xff=\"\x00\xfe\">"},
	} {
		mustShow(t, doc(with(el("p"), c.l...)), c.want)
		mustShow(t, doc(el("i", with(el("p", text("t")), c.l...))), "<i>", "  "+c.want, `    "t"`)
		mustShow(t, doc(with(svg("p"), c.l...)), strings.Replace(c.want, "<p", "<svg:p", 1))
	}
	mustShow(t, doc(text("a\nb\""), comment("c\n-->")), "\"a\nb\"\"", "<!-- c\n--> -->")
}

func TestShowOfWholeTrees(t *testing.T) {
	mustShow(t, big(),
		"<!html>",
		`<div x="1" y="">`,
		`  "a"`,
		"  <template>",
		"    content",
		`      "b"`,
		"      <i>",
		`    "c"`,
		"?",
		`  "d"`,
		`<svg:g z="2">`,
		"  <!-- e -->",
		"  <svg:path>",
		`    "f"`,
	)
	// The top one is not told, whatever it is.
	for _, kind := range kinds() {
		mustShow(t, api.Tree{Kind: kind, Name: "no", Text: "no", Kids: []api.Tree{el("p", text("a")), text("b")}}, "<p>", `  "a"`, `"b"`)
	}
	wrong := doc(text(""), doc(content(), text("a")), el("", under(text("b"), el("template"))), doctype(""))
	mustRight(t, wrong, false)
	mustShow(t, wrong, `""`, "?", "  content", `  "a"`, "<>", `  "b"`, "    <template>", "<!>")
}

func TestCopyIsTheSame(t *testing.T) {
	for _, x := range []api.Tree{
		{}, doc(), big(), odd(-3, odd(9), text("")), under(text("a"), text("b")),
		with(el("p"), api.Attr{Name: "a", Value: "1"}, api.Attr{Name: "a", Value: "2"}, api.Attr{}),
		{Kind: api.Element, Attrs: []api.Attr{}, Kids: []api.Tree{}},
		doc(api.Tree{NS: -4, Attrs: []api.Attr{}}, api.Tree{Kids: []api.Tree{}}),
		{Kind: api.CommentNode, NS: api.SVG, Name: "n\xff", Text: "t\x00"},
	} {
		y := Copy(x)
		mustSame(t, x, y, true)
		if brief(x) != brief(y) {
			t.Errorf("Copy(%s): %s", brief(x), brief(y))
		}
	}
}

// TestCopyIsByItself turns all that can be turned, on either side, and asks the other one.
func TestCopyIsByItself(t *testing.T) {
	for i, turn := range []func(n *api.Tree){
		func(n *api.Tree) { n.Kids[1] = text("z") },
		func(n *api.Tree) { n.Kids[1].Name = "z" },
		func(n *api.Tree) { n.Kids[1].Attrs[0].Value = "z" },
		func(n *api.Tree) { n.Kids[1].Attrs[1] = api.Attr{Name: "z"} },
		func(n *api.Tree) { n.Kids[1].Attrs = append(n.Kids[1].Attrs[:1], api.Attr{Name: "z"}) },
		func(n *api.Tree) { n.Kids[1].Kids[0].Text = "z" },
		func(n *api.Tree) { n.Kids[1].Kids[1].Kids[0].Kids[0].Text = "z" },
		func(n *api.Tree) { n.Kids[1].Kids[1].Kids[0].Kids[1].Kids = []api.Tree{text("z")} },
		func(n *api.Tree) { n.Kids[3].Kids[1].Kids[0].Kind = 0 },
		func(n *api.Tree) { n.Kids = append(n.Kids[:1], text("z")) },
		func(n *api.Tree) { n.Kids = append(n.Kids, text("z")) },
		func(n *api.Tree) { n.Kids[3].Kids = append(n.Kids[3].Kids[:0], text("z"), text("z")) },
		func(n *api.Tree) { n.Kids[0], n.Kids[1] = n.Kids[1], n.Kids[0] },
		func(n *api.Tree) { n.Text = "z" },
	} {
		x := big()
		y := Copy(x)
		turn(&y)
		if brief(x) != brief(big()) || Same(x, y) {
			t.Errorf("turn %d of a copy: the tree is %s, the copy %s", i, brief(x), brief(y))
		}
		x = big()
		y = Copy(x)
		turn(&x)
		if brief(y) != brief(big()) || Same(x, y) {
			t.Errorf("turn %d of the tree: the copy is %s, the tree %s", i, brief(y), brief(x))
		}
	}
}

// stretch is a piece of memory, from its first byte to behind its last one.
type stretch struct{ from, to uintptr }

func stretchOf[T any](l []T) stretch {
	from := uintptr(unsafe.Pointer(unsafe.SliceData(l)))
	var one T
	return stretch{from, from + uintptr(cap(l))*unsafe.Sizeof(one)}
}

// memoryOf are the stretches of all lists of t, spare room too.
func memoryOf(t api.Tree) []stretch {
	var all []stretch
	for _, n := range nodesOf(&t) {
		if cap(n.Attrs) > 0 {
			all = append(all, stretchOf(n.Attrs))
		}
		if cap(n.Kids) > 0 {
			all = append(all, stretchOf(n.Kids))
		}
	}
	return all
}

func TestCopySharesNoMemory(t *testing.T) {
	shared := []api.Tree{with(el("i", text("a")), api.Attr{Name: "a", Value: "1"}), text("b")}
	x := doc(el("p", shared...), el("p", shared...), el("q", shared[:1]...), big(), big())
	x.Kids[3].Attrs = x.Kids[3].Kids[1].Attrs[:0]
	x.Kids[4].Kids = x.Kids[4].Kids[:0]
	y := Copy(x)
	mustSame(t, x, y, true)
	mine := memoryOf(y)
	for i, a := range mine {
		for j, b := range append(mine[:i:i], memoryOf(x)...) {
			if a.from < b.to && b.from < a.to {
				t.Errorf("lists %d and %d share memory", i, j)
			}
		}
	}
	nodes, given := nodesOf(&y), nodesOf(&x)
	for i, n := range nodes {
		for _, pair := range [][2]string{{n.Name, given[i].Name}, {n.Text, given[i].Text}} {
			if pair[0] != "" && unsafe.StringData(pair[0]) == unsafe.StringData(pair[1]) {
				t.Errorf("node %d shares the text %q", i, pair[0])
			}
		}
	}
	y.Kids[0].Kids[0].Attrs[0].Value = "z"
	y.Kids[0].Kids[1].Text = "z"
	if y.Kids[1].Kids[0].Attrs[0].Value != "1" || y.Kids[1].Kids[1].Text != "b" || shared[1].Text != "b" {
		t.Error("two lists of one copy share memory")
	}
}

// roomy gives each list of t spare room that holds something.
func roomy(t api.Tree) api.Tree {
	kids := make([]api.Tree, 0, len(t.Kids)+3)
	for _, kid := range t.Kids {
		kids = append(kids, roomy(kid))
	}
	kids = append(kids, text("spare"), doc(text("spare")), content())
	l := append(append(make([]api.Attr, 0, len(t.Attrs)+2), t.Attrs...), api.Attr{Name: "spare"}, api.Attr{Name: "spare"})
	t.Kids, t.Attrs = kids[:len(t.Kids)], l[:len(t.Attrs)]
	return t
}

// briefAll writes t, and what stands in the spare room of its lists.
func briefAll(t api.Tree) string {
	out := brief(t)
	for _, n := range nodesOf(&t) {
		out += " / " + brief(api.Tree{Attrs: n.Attrs[:cap(n.Attrs)], Kids: n.Kids[:cap(n.Kids)]})
	}
	return out
}

func TestSpareRoomIsNeitherReadNorWritten(t *testing.T) {
	right := doc(doctype("html"), with(el("p", text("a"), el("template", content(el("b"))), comment("")), api.Attr{Name: "a"}))
	for _, bare := range []api.Tree{right, big(), doc(), {}, odd(7, odd(8)), text("a")} {
		x := roomy(bare)
		was := briefAll(x)
		if Right(x) != Right(bare) || Count(x) != Count(bare) || Depth(x) != Depth(bare) || Text(x) != Text(bare) || Show(x) != Show(bare) {
			t.Errorf("spare room is read: %s", brief(x))
		}
		mustSame(t, x, bare, true)
		mustSame(t, x, Copy(x), true)
		y := Copy(x)
		for _, n := range nodesOf(&y) {
			for _, kid := range n.Kids[len(n.Kids):cap(n.Kids)] {
				if brief(kid) != brief(api.Tree{}) {
					t.Errorf("spare room of a copy holds %s", brief(kid))
				}
			}
			for _, a := range n.Attrs[len(n.Attrs):cap(n.Attrs)] {
				if a != (api.Attr{}) {
					t.Errorf("spare room of a copy holds %v", a)
				}
			}
		}
		if now := briefAll(x); now != was {
			t.Errorf("a call changed what it was given:\n%s\nto\n%s", was, now)
		}
	}
}

func TestAnswersAreTheSameEachTime(t *testing.T) {
	for _, x := range []api.Tree{big(), doc(), doc(el("p", text("a")))} {
		shown, right := Show(x), Right(x)
		for range 20 {
			if Show(x) != shown || Right(x) != right || !reflect.DeepEqual(Copy(x), Copy(x)) {
				t.Error("one tree, two answers")
			}
		}
	}
}
