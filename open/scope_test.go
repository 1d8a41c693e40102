package open

import (
	"math"
	"strconv"
	"strings"
	"testing"

	"arbour/api"
)

var kinds = []int{Any, Lists, Buttons, Tables}

// plainBounds tells by the chapters' lists what bounds.
func plainBounds(kind, ns int, name string) bool {
	if kind == Tables {
		return ns == api.HTML && in(ofTables, name)
	}
	if ns == api.SVG {
		return in(points, name)
	}
	return ns == api.HTML && (in(bounding, name) || kind == Lists && in(ofLists, name) || kind == Buttons && in(ofButtons, name))
}

func TestNumbersOfTheKinds(t *testing.T) {
	for i, kind := range kinds {
		mustBe(t, "kind", kind, i+1)
	}
}

// TestListsOfTheChapters: the lists are as long as the chapters', so that a slip in one of them is seen.
func TestListsOfTheChapters(t *testing.T) {
	for list, want := range map[string]int{bounding: 8, points: 3, implied: 4, inTables: 6, ofLists: 2, ofTables: 3, ofButtons: 1} {
		mustBe(t, list, len(strings.Fields(list)), want)
	}
	for _, name := range strings.Fields(others) {
		if in(strings.Join([]string{bounding, points, implied, inTables, ofLists, ofTables, ofButtons}, " "), name) {
			t.Errorf("%s is not another one", name)
		}
	}
}

// TestWhatBounds: each name in each namespace, above what is asked for, of each kind.
func TestWhatBounds(t *testing.T) {
	for _, name := range append(known(), "", " table", "table ", "\xff", strings.Repeat("table", 1000)) {
		for _, ns := range []int{api.HTML, api.SVG, 0, -1, 3, 257, math.MinInt, math.MaxInt} {
			p := newPair(t)
			p.push(el("asked#1"))
			p.push(el("low#2"))
			p.push(Item[int]{H: 3, NS: ns, Name: name})
			p.push(el("high#4"))
			for _, kind := range kinds {
				said := "kind " + strconv.Itoa(kind) + ", namespace " + strconv.Itoa(ns) + ", " + strconv.Quote(name)
				mustBe(t, said, p.scope(kind, "asked"), !plainBounds(kind, ns, name))
				// What bounds may be what is asked for.
				mustBe(t, said+" itself", p.scope(kind, name), ns == api.HTML)
				mustBe(t, said+", asked with another", p.scope(kind, "asked", name), ns == api.HTML || !plainBounds(kind, ns, name))
				mustBe(t, said+" below", p.scope(kind, "high"), true)
				mustBe(t, said+", nothing that is there", p.scope(kind, "other"), false)
			}
		}
	}
}

// scopeRows are lists, what is asked for, and the kinds it is in scope of: a for Any, l, b, t.
var scopeRows = []struct{ list, ask, kinds string }{
	// The chapter's example, and what is asked for below, at and above what bounds.
	{"html p table", "p", ""}, {"html p table", "table", "albt"}, {"html p table p", "p", "albt"}, {"html table p", "table", "albt"},
	{"html p", "p", "albt"}, {"html p", "html", "albt"}, {"html p", "body", ""}, {"html", "html", "albt"}, {"p", "p", "albt"}, {"b", "p", ""},
	{"html p b i u", "p", "albt"}, {"p p p", "p", "albt"},
	{"html table tbody tr td p", "table", "t"}, {"html table tbody tr td p", "tr", "t"}, {"html table tbody tr td p", "td", "albt"}, {"html table tbody tr td p", "tbody tr td", "albt"},
	{"html p td", "p", "t"}, {"html p th", "p", "t"}, {"html p applet", "p", "t"}, {"html p marquee", "p", "t"}, {"html p object", "p", "t"},
	{"p html", "p", ""}, {"html p template", "p", ""}, {"template p", "template", "albt"},
	{"html p ul li", "p", "abt"}, {"html p ol li", "p", "abt"}, {"html li ul", "li", "abt"}, {"html ul li", "li ul", "albt"}, {"html p ul", "ul", "albt"},
	{"html p button", "p", "alt"}, {"html button p", "button", "albt"}, {"html p button ul", "p", "at"}, {"html p button ul", "button", "abt"},
	// Of SVG.
	{"html p ~svg", "p", "albt"}, {"html p ~svg ~title", "p", "t"}, {"html p ~svg ~desc", "p", "t"}, {"html p ~svg ~foreignObject", "p", "t"},
	{"html p ~foreignobject", "p", "albt"}, {"html p title", "p", "albt"}, {"html p desc foreignObject", "p", "albt"},
	{"html p ~table", "p", "albt"}, {"html p ~template ~html", "p", "albt"}, {"html p ~ul ~ol ~button", "p", "albt"},
	{"html ~p", "p", ""}, {"html p ~p", "p", "albt"}, {"html p ~title ~p", "p", "t"}, {"html ~title", "title", ""}, {"~title title", "title", "albt"}, {"title ~title", "title", "t"},
	{"html ?p", "p", ""}, {"html p ?table ?title", "p", "albt"},
	// Several names, and none.
	{"html p table b", "p b", "albt"}, {"html p table", "p b", ""}, {"html h1 p", "h1 h2 h3", "albt"}, {"html p td", "h1 p", "t"}, {"html p", "", ""}, {"", "p", ""}, {"", "", ""},
	{"html p b", "p p p", "albt"}, {"html p b", "P B", ""}, {"html p b", "x y z", ""},
}

func TestScope(t *testing.T) {
	for _, row := range scopeRows {
		p := made(t, row.list)
		for i, kind := range kinds {
			want := strings.Contains(row.kinds, "albt"[i:i+1])
			mustBe(t, row.list+": Scope("+strconv.Itoa(kind)+", "+row.ask+")", p.scope(kind, strings.Fields(row.ask)...), want)
		}
		for _, kind := range []int{0, 5, 6, -1, -2, -4, 257, math.MinInt, math.MaxInt} {
			mustBe(t, row.list+": Scope("+strconv.Itoa(kind)+", "+row.ask+")", p.scope(kind, strings.Fields(row.ask)...), false)
		}
		p.mustHold("Scope", row.list)
	}
}

func TestScopeOfAnEmptyName(t *testing.T) {
	for _, c := range []struct {
		list string
		want bool
	}{{"html _", true}, {"_ html", false}, {"html ~_", false}, {"html ?_", false}, {"html p", false}, {"_", true}} {
		for _, kind := range kinds {
			mustBe(t, c.list, made(t, c.list).scope(kind, ""), c.want)
			mustBe(t, c.list, made(t, c.list).scope(kind, "x", ""), c.want)
		}
	}
}

func TestUntil(t *testing.T) {
	for _, c := range []struct {
		list, names string
		n           int
		want        string
	}{
		{"html body p b", "b", 1, "html body p"}, {"html body p b", "p", 2, "html body"}, {"html body p b", "html", 4, ""}, {"html body p b", "i", 4, ""},
		{"html body p b", "", 4, ""}, {"html body p b", "P", 4, ""}, {"html body p b", "body p", 2, "html body"}, {"html body p b", "b p body", 1, "html body p"}, {"html body p b", "x y body", 3, "html"},
		{"p b p b p", "p", 1, "p b p b"}, {"p b p b p", "b", 2, "p b p"}, {"p p p", "p", 1, "p p"}, {"p p p", "p p p", 1, "p p"},
		{"html p ~p b", "p", 3, "html"}, {"html ~p b", "p", 3, ""}, {"html ?p b", "p", 3, ""}, {"html p ~p", "~p", 3, ""},
		{"html table td p", "table", 3, "html"}, {"html template p", "html", 3, ""},
		{"html _ b", "_", 3, ""}, {"b", "b", 1, ""}, {"b", "i", 1, ""}, {"", "p", 0, ""}, {"", "", 0, ""},
	} {
		p := made(t, c.list)
		mustBe(t, c.list+": Until("+c.names+")", p.until(strings.Fields(c.names)...), c.n)
		p.mustHold(c.list+": Until("+c.names+")", c.want)
	}
	p := made(t, "html _ b")
	mustBe(t, "Until of an empty name", p.until(""), 2)
	p.mustHold("Until of an empty name", "html")
	p = made(t, "html ~_ b")
	mustBe(t, "Until of an empty name of SVG", p.until("x", ""), 3)
	p.mustHold("Until of an empty name of SVG", "")
}

func TestImply(t *testing.T) {
	for _, c := range []struct{ list, but, want string }{
		{"html body p li", "li", "html body p li"}, {"html body p li", "p", "html body p"}, {"html body p li", "", "html body"}, {"html body p li", "b", "html body"}, {"html body p li", "LI", "html body"},
		{"html body li p dd dt", "li", "html body li"}, {"html dd dt li p dd dt li p", "", "html"}, {"html p p p", "p", "html p p p"}, {"html p dd p dd", "p", "html p dd p"},
		{"p li", "", ""}, {"p", "p", "p"}, {"p b", "", "p b"}, {"p b li", "", "p b"}, {"", "", ""}, {"", "p", ""},
		{"html p td p", "", "html p td"}, {"html tr tbody", "", "html tr tbody"}, {"html p li ~p", "", "html p li ~p"}, {"html ~p li", "", "html ~p"}, {"html ?p li", "", "html ?p"}, {"html ~li", "li", "html ~li"},
		{"html p _", "", "html p _"}, {"html _ p", "", "html _"}, {"html P", "", "html P"}, {"html p", "~p", "html"}, {"html p dl ul", "", "html p dl ul"},
	} {
		p := made(t, c.list)
		p.imply(c.but)
		p.mustHold(c.list+": Imply("+c.but+")", c.want)
	}
}

func TestThorough(t *testing.T) {
	for _, c := range []struct{ list, want string }{
		{"html template tbody tr td p", "html template"}, {"html dd dt li p tbody td tfoot th thead tr", "html"}, {"tr thead th tfoot td tbody p li dt dd", ""},
		{"html tr b", "html tr b"}, {"html tr b td", "html tr b"}, {"html table tr", "html table"}, {"html tr ~td", "html tr ~td"}, {"html tr ~td p", "html tr ~td"}, {"html ?tr p", "html ?tr"},
		{"html p _", "html p _"}, {"html TR", "html TR"}, {"html tr caption", "html tr caption"}, {"tr", ""}, {"", ""},
	} {
		p := made(t, c.list)
		p.thorough()
		p.mustHold(c.list+": Thorough", c.want)
	}
}

// TestEachNameThatIsPopped: each name in each namespace, by each call that pops.
func TestEachNameThatIsPopped(t *testing.T) {
	for _, name := range append(known(), "", "dd ", "\xff") {
		for _, ns := range []int{api.HTML, api.SVG, 0, 3, -1, 257, math.MinInt} {
			said := "namespace " + strconv.Itoa(ns) + ", " + strconv.Quote(name)
			html := ns == api.HTML
			left := func(do func(p pair), above ...string) int {
				p := newPair(t)
				p.push(el("low#1"))
				p.push(Item[int]{H: 2, NS: ns, Name: name})
				for _, one := range above {
					p.push(el(one))
				}
				do(p)
				return p.length()
			}
			stays := func(goes bool) int {
				if goes {
					return 1
				}
				return 2
			}
			mustBe(t, said+": Imply", left(func(p pair) { p.imply("other") }, "dd#3", "p#4"), stays(html && in(implied, name)))
			mustBe(t, said+": Imply(it)", left(func(p pair) { p.imply(name) }), 2)
			mustBe(t, said+": Thorough", left(func(p pair) { p.thorough() }, "dd#3", "tr#4"), stays(html && in(implied+" "+inTables, name)))
			mustBe(t, said+": Clear", left(func(p pair) { p.clear("low") }, "high#3", "~p#4"), stays(!html || !in("html template", name)))
			mustBe(t, said+": Clear(it)", left(func(p pair) { p.clear(name, "low") }, "high#3", "~p#4"), stays(!html))
			until := 0
			if html {
				until = 1
			}
			mustBe(t, said+": Until(it)", left(func(p pair) { p.until("other", name) }, "high#3", "~p#4"), until)
		}
	}
}

func TestClear(t *testing.T) {
	for _, c := range []struct{ list, names, want string }{
		{"html table tbody tr td b", "tbody tfoot", "html table tbody"}, {"html table tbody tr td b", "table", "html table"}, {"html table tbody tr td b", "b", "html table tbody tr td b"},
		{"html table tbody tr", "x", "html"}, {"html table tbody tr", "", "html"}, {"html table html tr", "table", "html table html"}, {"table b", "table", "table"},
		{"html template tr ~tbody", "tbody", "html template"}, {"html table template tr", "table", "html table template"}, {"template", "x", "template"}, {"html", "", "html"}, {"template html", "", "template html"},
		{"html ~html b", "", "html"}, {"html ~template b", "x", "html"}, {"html ?html b", "x", "html"}, {"~html ~template", "html template", ""}, {"html table ~table", "table", "html table"},
		{"table tr td", "", ""}, {"table tr td", "x y", ""}, {"table tr td", "TABLE", ""}, {"table tr td", "tr table", "table tr"}, {"tr tr tr", "tr", "tr tr tr"},
		{"b _ i", "x", ""}, {"", "p", ""}, {"", "", ""},
	} {
		p := made(t, c.list)
		p.clear(strings.Fields(c.names)...)
		p.mustHold(c.list+": Clear("+c.names+")", c.want)
	}
	p := made(t, "b _ i ~_")
	p.clear("")
	p.mustHold("Clear of an empty name", "b _")
}

func TestRunOfTheChapter(t *testing.T) {
	p := made(t, "html body p li")
	p.imply("li")
	p.mustHold("Imply(li)", "html body p li")
}

func TestExamplesOfTheChapter(t *testing.T) {
	mustBe(t, "Scope(Any, p)", made(t, "html p table").scope(Any, "p"), false)
	p := made(t, "html body p")
	mustBe(t, "Until of what is not there", p.until("b"), 3)
	p.mustHold("Until of what is not there", "")
}
