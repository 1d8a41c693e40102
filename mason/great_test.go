package mason

import (
	"strconv"
	"strings"
	"testing"

	"arbour/api"
	"arbour/tree"
)

const great = 20000

// mustBeGreat parses s, and asks how many nodes there are, and how deep they lie.
func mustBeGreat(t *testing.T, said, s string, c *api.Context, count, depth int) {
	t.Helper()
	a := all(t, []byte(s), false, c)
	x := Tree(a, false)
	if tree.Count(x) != count || tree.Depth(x) != depth {
		t.Errorf("%s: %d nodes, %d deep, want %d, %d", said, tree.Count(x), tree.Depth(x), count, depth)
	}
	if c == nil {
		return
	}
	if tree.Count(Tree(a, true)) != count-1 || tree.Depth(Tree(a, true)) != depth-1 {
		t.Errorf("%s, without the html: %d nodes, %d deep", said, tree.Count(Tree(a, true)), tree.Depth(Tree(a, true)))
	}
}

// many is s so many times.
func many(s string) string { return strings.Repeat(s, great) }

func TestManyWithinEachOther(t *testing.T) {
	const page = 4 // a Document, html, head, body
	for _, c := range []struct {
		said, s     string
		more, above int
	}{
		{"blocks", many("<div>"), great, great},
		{"blocks with texts", many("<div>x"), 2 * great, great + 1},
		{"plain ones", many("<q>"), great, great},
		{"formatting", many("<b>"), great, great},
		{"items", many("<ul><li>"), 2 * great, 2 * great},
		{"tables", many("<table><tr><td>"), 4 * great, 4 * great},
		{"templates", "<body>" + many("<template>"), 2 * great, 2 * great},
		{"SVG", many("<svg>"), great, great},
		{"SVG and HTML by turns", many("<svg><title>"), 2 * great, 2 * great},
		{"objects", many("<p><object>"), 2 * great, 2 * great},
		{"ends of what is not open", many("<q>") + many("</x></section></li></p>"), 2 * great, great + 1},
		{"ends of what is not open in SVG", "<svg>" + many("<g>") + many("</x>"), great + 1, great + 1},
		{"ends", many("<div>") + many("</div>") + "x", great + 1, great},
		{"forms", many("<div><form></form>"), 2 * great, great + 1},
		{"starts of what is within", many("<q>") + many("<p>"), 2 * great, great + 1},
		{"items below what is not an item", many("<div>") + many("<li>"), 2 * great, great + 1},
		{"texts ahead of a table", many("<q>") + "<table>" + many("x<!--c-->"), 2*great + 2, great + 2},
	} {
		mustBeGreat(t, c.said, c.s, nil, page+c.more, 3+c.above)
	}
	mustBeGreat(t, "templates in a template", many("<template><tr>"), part("template"), 2+3*great, 2+3*great)
}

func TestManySideBySide(t *testing.T) {
	const page = 4
	for _, c := range []struct {
		said, s     string
		more, above int
	}{
		{"blocks", many("<p>"), great, 1},
		{"blocks with texts", many("<p>x"), 2 * great, 2},
		{"formatting", many("<a>"), great, 1},
		{"formatting in each block", many("<p><b>x</p>"), 6*great - 6, 6}, // of those that are alike three go on, and one is new
		{"rows", "<table>" + many("<tr><td>x"), 2 + 3*great, 5},
		{"tables", many("<table>"), great, 1},
		{"ahead of a table", "<table>" + many("x<hr>") + "y", 2 + 2*great, 1},
		{"comments", "<body>" + many("<!--c-->"), great, 1},
		{"a long text", many("a b "), 1, 1},
		{"a long text that waits", "<table>" + many("a b "), 2, 1},
		{"a long text in pieces", many("a</x>"), 1, 1},
		{"spaces and words in SVG behind the body", "<svg></body>" + many("a b "), 2, 2},
		{"attributes", "<body>" + "<p" + manyAttributes() + ">x", 2, 2},
	} {
		mustBeGreat(t, c.said, c.s, nil, page+c.more, 3+c.above)
	}
}

// manyAttributes are as many as there may be in a short time.
func manyAttributes() string {
	var b strings.Builder
	for i := range 3000 {
		b.WriteString(" a" + strconv.Itoa(i) + "=1")
	}
	return b.String()
}

// TestManyThatGoOn: formatting that is not alike all goes on.
func TestManyThatGoOn(t *testing.T) {
	const n = 300
	var b strings.Builder
	b.WriteString("<p>")
	for i := range n {
		b.WriteString("<b a=" + strconv.Itoa(i) + ">")
	}
	mustBeGreat(t, "formatting", b.String()+strings.Repeat("</p><p>x", n), nil, 4+(n+1)*(n+1)+n, 3+n+2)
}

// TestGreatAdoption: each End goes around eight blocks at most, however many there are.
func TestGreatAdoption(t *testing.T) {
	for _, n := range []int{300, great} {
		mustBeGreat(t, "adoption", "<b>"+strings.Repeat("<div>", n)+strings.Repeat("</b>", 3), nil, 4+1+n+3*8, 3+n+1)
	}
}

// TestEndOfManyTemplates: one EOF leaves them all, without calls within calls.
func TestEndOfManyTemplates(t *testing.T) {
	m := New(false)
	for range 5 * great {
		m.Feed(start("template"))
	}
	m.Feed(eof)
	if want := 4 + 2*5*great; !m.Done() || m.Arena().Len() != want {
		t.Errorf("%d nodes, want %d, done %v", m.Arena().Len(), want, m.Done())
	}
}
