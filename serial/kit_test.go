package serial

import (
	"math"
	"strconv"
	"strings"
	"testing"

	"arbour/api"
)

func doc(kids ...api.Tree) api.Tree { return api.Tree{Kind: api.Document, Kids: kids} }

func el(name string, kids ...api.Tree) api.Tree {
	return api.Tree{Kind: api.Element, NS: api.HTML, Name: name, Kids: kids}
}

func svg(name string, kids ...api.Tree) api.Tree {
	return api.Tree{Kind: api.Element, NS: api.SVG, Name: name, Kids: kids}
}

func text(s string) api.Tree { return api.Tree{Kind: api.TextNode, Text: s} }

func comment(s string) api.Tree { return api.Tree{Kind: api.CommentNode, Text: s} }

func doctype(name string) api.Tree { return api.Tree{Kind: api.DoctypeNode, Name: name} }

func content(kids ...api.Tree) api.Tree { return api.Tree{Kind: api.Content, Kids: kids} }

// with is n with attributes, names and values by turns.
func with(n api.Tree, pairs ...string) api.Tree {
	for i := 0; i < len(pairs); i += 2 {
		n.Attrs = append(n.Attrs, api.Attr{Name: pairs[i], Value: pairs[i+1]})
	}
	return n
}

// under hangs kids below n, which is left as it was.
func under(n api.Tree, kids ...api.Tree) api.Tree {
	n.Kids = kids
	return n
}

// of is n in another namespace.
func of(ns int, n api.Tree) api.Tree {
	n.NS = ns
	return n
}

// full is a node of that Kind in which each field is set.
func full(kind int, name string, kids ...api.Tree) api.Tree {
	return with(api.Tree{Kind: kind, NS: api.HTML, Name: name, Text: "T&", Kids: kids}, "a", "1")
}

// noKinds are numbers that are no Kind.
func noKinds() []int { return []int{0, -1, 7, 8, math.MinInt, math.MaxInt} }

// kinds are all Kinds, and some numbers that are none.
func kinds() []int {
	return append([]int{api.Document, api.DoctypeNode, api.Element, api.TextNode, api.CommentNode, api.Content}, noKinds()...)
}

// brief writes every field of a tree that is not too deep.
func brief(t api.Tree) string {
	out := "{" + strconv.Itoa(t.Kind) + " " + strconv.Itoa(t.NS) + " " + strconv.Quote(t.Name) + " ["
	for _, a := range t.Attrs {
		out += strconv.Quote(a.Name) + "=" + strconv.Quote(a.Value) + " "
	}
	out += "] " + strconv.Quote(t.Text)
	for _, kid := range t.Kids {
		out += " " + brief(kid)
	}
	return out + "}"
}

// mustBe asks what stands within x, with scripting and without, and by Text.
func mustBe(t *testing.T, x api.Tree, plain, scripting string) {
	t.Helper()
	if got := Inner(x, false); got != plain {
		t.Errorf("Inner(%s, false): %q, want %q", brief(x), got, plain)
	}
	if got := Text(x); got != plain {
		t.Errorf("Text(%s): %q, want %q", brief(x), got, plain)
	}
	if got := Inner(x, true); got != scripting {
		t.Errorf("Inner(%s, true): %q, want %q", brief(x), got, scripting)
	}
}

// must asks what stands within x, whether scripting or not.
func must(t *testing.T, x api.Tree, want string) {
	t.Helper()
	mustBe(t, x, want, want)
}

// row is a tree and what stands within it.
type row struct {
	in   api.Tree
	want string
}

func mustAll(t *testing.T, rows []row) {
	t.Helper()
	for _, r := range rows {
		must(t, r.in, r.want)
	}
}

// dice gives numbers that look like any, the same ones each time.
type dice uint64

func (d *dice) draw(n int) int {
	*d = *d*6364136223846793005 + 1442695040888963407
	return int(uint64(*d)>>33) % n
}

func (d *dice) of(l []string) string { return l[d.draw(len(l))] }

func repeated(n int, parts ...string) string { return strings.Repeat(strings.Join(parts, ""), n) }
