package context

import (
	"strings"
	"testing"

	"arbour/api"
)

// asked are the names that Reset tells apart, and two that it does not; of SVG as well.
const asked = "td th tr tbody tfoot thead table template head body html p b ~td ~tr ~template ~html ~head ?table"

// dice draws numbers.
type dice uint64

func (d *dice) draw(n int) int {
	*d = *d*6364136223846793005 + 1442695040888963407
	return int(uint64(*d) >> 33 % uint64(n))
}

// byWords is the promise, word by word, of a list whose first one is the context's already.
func byWords(list []string, template int, head bool) int {
	for i := len(list); i > 0; i-- {
		last := list[i-1]
		mode := map[string]int{"td": InCell, "th": InCell, "tr": InRow, "tbody": InTableBody, "tfoot": InTableBody, "thead": InTableBody, "table": InTable,
			"template": template, "head": InHead, "body": InBody, "html": BeforeHead}
		if head {
			mode["html"] = AfterHead
		}
		m, there := mode[last]
		if i == 1 && (last == "td" || last == "th" || last == "head") {
			there = false
		}
		if there {
			return m
		}
		if i == 1 {
			return InBody
		}
	}
	return InBody
}

// currentByWords is what Adjusted promises.
func currentByWords(list []string, context string) string {
	switch {
	case len(list) == 0:
		return ""
	case len(list) == 1 && context != "":
		return context
	}
	return list[len(list)-1]
}

// mustBeByWords asks all of one list in one context.
func (p pair) mustBeByWords(list []string, context string, template int) {
	p.t.Helper()
	c, seen := part(context), append([]string{}, list...)
	if context != "" && len(seen) > 0 {
		seen[0] = context
	}
	said := strings.Join(list, " ") + " in " + context
	for _, head := range []bool{false, true} {
		mustBe(p.t, said, agree(p, said, Reset(p.ints, c, template, head), Reset(p.texts, c, template, head)), byWords(seen, template, head))
	}
	ns, name := Adjusted(p.ints, c)
	want := currentByWords(list, context)
	mustBe(p.t, said, spelt(ns, name), want)
	mustBe(p.t, said, Foreign(p.ints, c), strings.HasPrefix(want, "~"))
}

// TestEachShortList: of each list of at most two, in each context.
func TestEachShortList(t *testing.T) {
	each := strings.Fields(asked)
	lists := [][]string{{}}
	for _, x := range each {
		lists = append(lists, []string{x})
		for _, y := range each {
			lists = append(lists, []string{x, y})
		}
	}
	for _, l := range lists {
		p := made(t, strings.Join(l, " "))
		was := p.stays(strings.Join(l, " "), nil)
		p.mustBeByWords(l, "", 77)
		for _, c := range each {
			p.mustBeByWords(l, c, 77)
		}
		was()
	}
}

// TestDrawnLists: of longer ones.
func TestDrawnLists(t *testing.T) {
	each, d := strings.Fields(asked), dice(20)
	for range 3000 {
		var l []string
		for range d.draw(12) {
			// Mostly what is passed by, so that those below are asked, too.
			x := []string{"p", "b", "~tr", "?table"}[d.draw(4)]
			if d.draw(4) == 0 {
				x = each[d.draw(len(each))]
			}
			l = append(l, x)
		}
		context := ""
		if d.draw(2) == 0 {
			context = each[d.draw(len(each))]
		}
		p := made(t, strings.Join(l, " "))
		was := p.stays(strings.Join(l, " "), nil)
		p.mustBeByWords(l, context, d.draw(18)-1)
		was()
	}
}

// TestDrawnContexts: of attributes of few names, Right holds each against each.
func TestDrawnContexts(t *testing.T) {
	d := dice(7)
	for range 5000 {
		c := api.Context{NS: d.draw(5) - 1, Name: []string{"", "p", "td"}[d.draw(3)]}
		twice := false
		for range d.draw(6) {
			a := api.Attr{Name: string(rune('a' + d.draw(8))), Value: string(rune('0' + d.draw(2)))}
			for _, b := range c.Attrs {
				twice = twice || a.Name == b.Name
			}
			c.Attrs = append(c.Attrs, a)
		}
		want := (c.NS == api.HTML || c.NS == api.SVG) && c.Name != "" && !twice
		if got := Right(c); got != want {
			t.Errorf("Right(%v): %v", c, got)
		}
	}
}
