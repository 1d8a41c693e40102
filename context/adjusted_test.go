package context

import (
	"testing"

	"arbour/api"
	"arbour/open"
)

func TestAdjusted(t *testing.T) {
	for _, c := range []struct{ list, context, want string }{
		{"", "", ""}, {"", "td", ""}, {"", "~desc", ""}, {"", "?x", ""},

		{"html", "", "html"}, {"~svg", "", "~svg"}, {"?x", "", "?x"}, {"_", "", "_"}, {"~_", "", "~_"}, {"P", "", "P"},
		{"html", "td", "td"}, {"html", "~desc", "~desc"}, {"html", "?x", "?x"}, {"html", "html", "html"}, {"html", "_", "_"},
		{"~svg", "p", "p"}, {"~svg", "~svg", "~svg"}, {"~svg", "svg", "svg"}, {"svg", "~svg", "~svg"}, {"html", "TD", "TD"},
		{"html", "template", "template"}, {"html", "~foreignObject", "~foreignObject"},

		{"html p", "", "p"}, {"html ~g", "", "~g"}, {"~svg p", "", "p"}, {"~svg ~g", "", "~g"}, {"html ?x", "", "?x"}, {"html _", "", "_"},
		{"html p", "td", "p"}, {"html p", "~g", "p"}, {"html ~g", "td", "~g"}, {"html ~g", "~desc", "~g"}, {"~svg p", "~g", "p"},
		{"html p", "p", "p"}, {"html ~g", "~g", "~g"}, {"html ~g", "g", "~g"}, {"html g", "~g", "g"}, {"html ~html", "html", "~html"},
		{"html html", "~svg", "html"},

		{"html body p", "", "p"}, {"html body ~svg ~g", "", "~g"}, {"html ~svg ~desc b", "", "b"}, {"html body p", "~g", "p"},
		{"html ~svg ~g", "p", "~g"}, {"html ~svg p ~svg", "~title", "~svg"}, {"html p p p p p p p p p b", "~i", "b"},
	} {
		said := c.list + " in " + c.context
		mustBe(t, said, made(t, c.list).current(said, part(c.context)), c.want)
	}
}

func TestForeign(t *testing.T) {
	for _, c := range []struct {
		list, context string
		want          bool
	}{
		{"", "", false}, {"", "~g", false}, {"html", "", false}, {"~svg", "", true}, {"html", "~g", true}, {"~svg", "p", false},
		{"~svg", "~g", true}, {"html", "p", false}, {"html ~g", "", true}, {"html ~g", "p", true}, {"html p", "~g", false},
		{"~svg p", "", false}, {"~svg p", "~g", false}, {"?x", "", false}, {"html", "?x", false}, {"~svg", "?x", false},
		{"html svg", "", false}, {"html ~svg ~desc", "", true}, {"html ~svg ~desc p", "", false}, {"html ~p", "p", true},
	} {
		p := made(t, c.list)
		mustBe(t, c.list+" in "+c.context, Foreign(p.ints, part(c.context)), c.want)
		mustBe(t, c.list+" in "+c.context, Foreign(p.texts, part(c.context)), c.want)
	}
}

// TestAdjustedFollowsTheList: nothing is kept from call to call.
func TestAdjustedFollowsTheList(t *testing.T) {
	l, c := open.New[int](), part("~g")
	for _, step := range []struct{ do, alone, within string }{
		{"", "", ""}, {"html", "html", "~g"}, {"td", "td", "td"}, {"~svg", "~svg", "~svg"}, {"-", "td", "td"}, {"-", "html", "~g"}, {"-", "", ""},
		{"~svg", "~svg", "~g"},
	} {
		if step.do == "-" {
			l.Pop()
		} else if step.do != "" {
			ns, name := thing(step.do)
			l.Push(open.Item[int]{NS: ns, Name: name})
		}
		ns, name := Adjusted(l, nil)
		mustBe(t, "behind "+step.do, spelt(ns, name), step.alone)
		mustBe(t, "Foreign behind "+step.do, Foreign(l, nil), ns == api.SVG)
		ns, name = Adjusted(l, c)
		mustBe(t, "in ~g behind "+step.do, spelt(ns, name), step.within)
		mustBe(t, "Foreign in ~g behind "+step.do, Foreign(l, c), ns == api.SVG)
		c.Name = "x"
		if _, name := Adjusted(l, c); l.Len() == 1 && name != "x" {
			t.Errorf("behind %s: %s of a context that was changed", step.do, name)
		}
		c.Name = "g"
	}
}
