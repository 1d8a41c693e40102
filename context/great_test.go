package context

import (
	"strconv"
	"testing"

	"arbour/api"
	"arbour/open"
)

// many is as deep as a page may be.
const many = 1 << 16

// deep is a list of these below, and many of the last one.
func deep(s, last string) *open.List[int] {
	l := open.New[int]()
	push := func(one string) {
		ns, name := thing(one)
		l.Push(open.Item[int]{H: l.Len(), NS: ns, Name: name})
	}
	if s != "" {
		push(s)
	}
	for range many {
		push(last)
	}
	return l
}

func TestManyElements(t *testing.T) {
	for _, c := range []struct {
		first, last, context string
		want                 int
	}{
		{"tr", "b", "", InRow}, {"tr", "~tr", "", InRow}, {"td", "b", "", InBody}, {"html", "b", "", AfterHead}, {"html", "b", "tbody", InTableBody},
		{"tr", "b", "td", InBody}, {"tr", "td", "", InCell}, {"template", "p", "", 77}, {"", "td", "", InCell}, {"", "b", "", InBody},
		{"", "~svg", "", InBody}, {"", "b", "table", InTable}, {"", "head", "table", InHead}, {"html", "b", "~table", InBody},
	} {
		l := deep(c.first, c.last)
		n := l.Len()
		said := c.first + " and many " + c.last + " in " + c.context
		for range 20 {
			mustBe(t, said, Reset(l, part(c.context), 77, true), c.want)
		}
		for range many {
			Foreign(l, part(c.context))
		}
		ns, name := Adjusted(l, part(c.context))
		mustBe(t, said, spelt(ns, name), c.last)
		mustBe(t, said, l.Len(), n)
	}
}

func TestManyAttributes(t *testing.T) {
	c := api.Context{NS: api.HTML, Name: "p"}
	for i := range 4 * many {
		c.Attrs = append(c.Attrs, api.Attr{Name: "a" + strconv.Itoa(i), Value: "1"})
	}
	mustBe(t, "no two of one name", Right(c), true)
	last := len(c.Attrs) - 1
	for _, i := range []int{last, last / 2, 1} {
		was := c.Attrs[i].Name
		c.Attrs[i].Name = "a0"
		mustBe(t, "two of one name", Right(c), false)
		c.Attrs[i].Name = was
	}
	mustBe(t, "none again", Right(c), true)
	c.Attrs[0].Name = c.Attrs[last].Name
	mustBe(t, "the first and the last", Right(c), false)
}

func TestLongNames(t *testing.T) {
	long := make([]byte, many)
	for i := range long {
		long[i] = 'x'
	}
	c := api.Context{NS: api.HTML, Name: string(long), Attrs: []api.Attr{{Name: string(long)}, {Name: string(long) + "y"}}}
	mustBe(t, "Right", Right(c), true)
	mustBe(t, "Lexer", Lexer(c, true), api.Data)
	_, name := Adjusted(deep("", "b"), &c)
	mustBe(t, "Adjusted of many", name, "b")
	_, name = Adjusted(made(t, "html").ints, &c)
	mustBe(t, "Adjusted", name, string(long))
	c.Attrs[1].Name = string(long)
	mustBe(t, "Right of two", Right(c), false)
}
