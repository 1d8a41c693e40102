package context

import (
	"math"
	"strconv"
	"testing"

	"arbour/api"
)

// answer is what Reset tells of a list in a context: without a head, with one, both with intext as the mode template, which no list asks for otherwise.
type answer struct{ list, context, without, with string }

func mustReset(t *testing.T, cases []answer) {
	t.Helper()
	for _, c := range cases {
		p, said := made(t, c.list), c.list+" in "+c.context
		mustBe(t, said, mode(p.reset(said, part(c.context), InText, false)), c.without)
		mustBe(t, said+" with a head", mode(p.reset(said, part(c.context), InText, true)), c.with)
	}
}

func TestResetOfNone(t *testing.T) {
	mustReset(t, []answer{
		{"", "", "inbody", "inbody"}, {"", "td", "inbody", "inbody"}, {"", "tr", "inbody", "inbody"}, {"", "html", "inbody", "inbody"},
		{"", "template", "inbody", "inbody"}, {"", "~svg", "inbody", "inbody"}, {"", "head", "inbody", "inbody"},
	})
}

// one tells of each name that the chapter lists what it asks for as the first one, and above another.
var one = [...]struct{ name, first, above string }{
	{"td", "inbody", "incell"}, {"th", "inbody", "incell"}, {"tr", "inrow", "inrow"}, {"tbody", "intablebody", "intablebody"},
	{"tfoot", "intablebody", "intablebody"}, {"thead", "intablebody", "intablebody"}, {"table", "intable", "intable"},
	{"template", "intext", "intext"}, {"head", "inbody", "inhead"}, {"body", "inbody", "inbody"},
	{"p", "inbody", ""}, {"b", "inbody", ""}, {"select", "inbody", ""}, {"caption", "inbody", ""}, {"colgroup", "inbody", ""},
	{"col", "inbody", ""}, {"frameset", "inbody", ""}, {"div", "inbody", ""}, {"svg", "inbody", ""}, {"title", "inbody", ""},
	{"TD", "inbody", ""}, {"Table", "inbody", ""}, {"TR", "inbody", ""}, {"HTML", "inbody", ""}, {"Head", "inbody", ""}, {"Template", "inbody", ""},
	{"Body", "inbody", ""}, {"TBody", "inbody", ""}, {"t", "inbody", ""}, {"tdd", "inbody", ""}, {"_", "inbody", ""}, {"h1", "inbody", ""},
}

func TestResetOfOne(t *testing.T) {
	for _, x := range one {
		mustReset(t, []answer{
			{x.name, "", x.first, x.first},
			{"~" + x.name, "", "inbody", "inbody"}, {"?" + x.name, "", "inbody", "inbody"},

			// As the context: what the first one itself is, is not asked.
			{"html", x.name, x.first, x.first}, {"table", x.name, x.first, x.first}, {"~svg", x.name, x.first, x.first}, {"td", x.name, x.first, x.first},
			{"html", "~" + x.name, "inbody", "inbody"}, {"html", "?" + x.name, "inbody", "inbody"}, {"tr", "~" + x.name, "inbody", "inbody"},
			{x.name, x.name, x.first, x.first},
			{x.name, "p", "inbody", "inbody"}, {x.name, "~svg", "inbody", "inbody"}, {x.name, "tr", "inrow", "inrow"},
			{x.name, "html", "beforehead", "afterhead"},
		})
	}
	mustReset(t, []answer{
		{"html", "", "beforehead", "afterhead"}, {"~html", "", "inbody", "inbody"}, {"?html", "", "inbody", "inbody"},
		{"html", "html", "beforehead", "afterhead"}, {"html", "~html", "inbody", "inbody"}, {"~html", "html", "beforehead", "afterhead"},
	})
}

func TestResetOfSeveral(t *testing.T) {
	for _, x := range one {
		// Above others, it asks for its own; what asks for nothing, SVG as well, leaves it to those below.
		last, middle := x.above, x.above
		if x.above == "" {
			last, middle = "intable", "intable"
		}
		mustReset(t, []answer{
			{"html table " + x.name, "", last, last}, {"html table ~" + x.name, "", "intable", "intable"},
			{"html table ?" + x.name, "", "intable", "intable"}, {"html table " + x.name + " b", "", middle, middle},
			{"html table " + x.name + " ~svg ~tr", "", middle, middle}, {"html table ~" + x.name + " b i", "", "intable", "intable"},
			{"html table " + x.name, "td", last, last}, {"html table " + x.name, "~svg", last, last}, {"html table " + x.name + " p", "tr", middle, middle},
			{"html b i " + x.name, "body", orElse(x.above, "inbody"), orElse(x.above, "inbody")},

			// Right above the first one.
			{"html " + x.name, "", orElse(x.above, "beforehead"), orElse(x.above, "afterhead")},
			{"html " + x.name, "tr", orElse(x.above, "inrow"), orElse(x.above, "inrow")},
			{"html " + x.name, "td", orElse(x.above, "inbody"), orElse(x.above, "inbody")},

			// As the first one, nothing above it asking.
			{x.name + " b", "", x.first, x.first}, {x.name + " b ~tr ?table", "", x.first, x.first}, {"~" + x.name + " b", "", "inbody", "inbody"},
			{"?" + x.name + " b", "", "inbody", "inbody"},

			// As the context of a first one that has others above it.
			{"html b", x.name, x.first, x.first}, {"tr b ~svg", x.name, x.first, x.first}, {"tr b", "~" + x.name, "inbody", "inbody"},
			{"tr b", "?" + x.name, "inbody", "inbody"}, {"tr table", x.name, "intable", "intable"}, {x.name + " b", "p", "inbody", "inbody"},
			{x.name + " b", "tbody", "intablebody", "intablebody"}, {x.name + " b", "html", "beforehead", "afterhead"},
		})
	}
}

// orElse is s, or t where s is nothing.
func orElse(s, t string) string {
	if s == "" {
		return t
	}
	return s
}

func TestResetOfHtml(t *testing.T) {
	mustReset(t, []answer{
		{"html p", "", "beforehead", "afterhead"}, {"html p b i", "", "beforehead", "afterhead"}, {"table html", "", "beforehead", "afterhead"},
		{"table html p", "", "beforehead", "afterhead"}, {"table ~html", "", "intable", "intable"}, {"html html", "td", "beforehead", "afterhead"},
		{"html html", "tr", "beforehead", "afterhead"}, {"html p", "html", "beforehead", "afterhead"}, {"tr html tr", "", "inrow", "inrow"},
		{"html ~html ~html", "", "beforehead", "afterhead"}, {"html ~html", "table", "intable", "intable"}, {"html HTML", "", "beforehead", "afterhead"},
		{"html head", "", "inhead", "inhead"}, {"html head html", "", "beforehead", "afterhead"}, {"html body html", "", "beforehead", "afterhead"},
	})
}

func TestResetOfMany(t *testing.T) {
	mustReset(t, []answer{
		{"html body table tr", "", "inrow", "inrow"}, {"html body table tbody tr td", "", "incell", "incell"},
		{"html body table tbody tr td p b", "", "incell", "incell"}, {"html body table tbody tr td table", "", "intable", "intable"},
		{"html body table tbody tr td table tfoot", "", "intablebody", "intablebody"}, {"html body template table tr template", "", "intext", "intext"},
		{"html head template", "", "intext", "intext"}, {"html template tr", "", "inrow", "inrow"}, {"html body p", "", "inbody", "inbody"},
		{"html table td body", "", "inbody", "inbody"}, {"html td head", "", "inhead", "inhead"}, {"html head td", "", "incell", "incell"},
		{"td td", "", "incell", "incell"}, {"td th p", "", "incell", "incell"}, {"head head", "", "inhead", "inhead"}, {"td td", "td", "incell", "incell"},
		{"th p", "", "inbody", "inbody"}, {"head p", "", "inbody", "inbody"}, {"html th ~td", "", "incell", "incell"},
	})
}

// TestResetOfTemplate: the mode template is told as it is handed in, and asked for a template alone.
func TestResetOfTemplate(t *testing.T) {
	numbers := []int{0, -1, AfterAfterBody + 1, 77, math.MaxInt, math.MinInt}
	for m := Initial; m <= AfterAfterBody; m++ {
		numbers = append(numbers, m)
	}
	for _, m := range numbers {
		for _, head := range []bool{false, true} {
			for _, c := range []struct{ list, context string }{
				{"template", ""}, {"html template", ""}, {"html template b", ""}, {"html", "template"}, {"~svg", "template"}, {"html p", "template"},
				{"html body template ~svg ~desc", ""}, {"html template", "tr"}, {"table template", "~svg"},
			} {
				said := c.list + " in " + c.context + " with the mode " + strconv.Itoa(m)
				mustBe(t, said, made(t, c.list).reset(said, part(c.context), m, head), m)
			}
			for _, c := range []struct {
				list, context string
				want          int
			}{{"html table ~template", "", InTable}, {"template", "td", InBody}, {"template tr", "", InRow}, {"~template", "", InBody}, {"html", "~template", InBody}, {"", "template", InBody}} {
				said := c.list + " in " + c.context + " with the mode " + strconv.Itoa(m)
				mustBe(t, said, made(t, c.list).reset(said, part(c.context), m, head), c.want)
			}
		}
	}
}

// TestResetAsksAttributesNothing: an annotation-xml or a font is told by its attributes elsewhere, not here.
func TestResetAsksAttributesNothing(t *testing.T) {
	for _, a := range [][]api.Attr{nil, {}, list("td tr"), list("x x")} {
		c := &api.Context{NS: api.HTML, Name: "tr", Attrs: a}
		mustBe(t, "in tr", made(t, "html").reset("in tr", c, 0, false), InRow)
		ns, name := Adjusted(made(t, "html").ints, c)
		mustBe(t, "in tr", spelt(ns, name), "tr")
	}
}
