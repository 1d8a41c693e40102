package op

import (
	"math"
	"slices"
	"strings"
	"testing"

	"arbour/api"
)

func mustRight(t *testing.T, o api.Op, want bool) {
	t.Helper()
	if Right(o) != want {
		t.Errorf("Right(%#v): %v", o, !want)
	}
}

// mustSame holds both against each other in both orders.
func mustSame(t *testing.T, a, b api.Op, want bool) {
	t.Helper()
	if Same(a, b) != want || Same(b, a) != want {
		t.Errorf("Same(%#v, %#v): %v, %v", a, b, Same(a, b), Same(b, a))
	}
}

func mustText(t *testing.T, o api.Op, want string) {
	t.Helper()
	if got := Text(o); got != want {
		t.Errorf("Text(%#v): %q, want %q", o, got, want)
	}
}

func TestRunOfTheChapter(t *testing.T) {
	mustText(t, api.Op{Kind: api.Quirks}, `11 0 0 0 0 0  ""`)
}

func TestExamplesOfTheChapter(t *testing.T) {
	if l, why := Decode(nil); len(l) != 0 || why != api.OK {
		t.Errorf("Decode of nothing: %v, %v", l, why)
	}
	mustRight(t, api.Op{Kind: api.Detach, Ref: 1}, false)
}

// P16.1: Kinds.
func TestRightAsksTheKind(t *testing.T) {
	for _, kind := range []int{math.MinInt, -256, -1, 0, 12, 13, 255, 256, 256 + api.Quirks, 1<<32 + api.Quirks, math.MaxInt} {
		mustRight(t, api.Op{Kind: kind}, false)
		mustRight(t, api.Op{Kind: kind, Type: api.Element}, false)
	}
	for kind := api.Make; kind <= api.Quirks; kind++ {
		mustRight(t, only(full(kind)), true)
		mustRight(t, full(kind), false)
		mustRight(t, api.Op{Kind: kind}, kind != api.Make)
		mustRight(t, api.Op{Kind: kind, Type: api.Element}, kind == api.Make)
	}
}

// P16.1: fields, each set of them with each Kind.
func TestRightAsksTheFields(t *testing.T) {
	for kind := api.Make; kind <= api.Quirks; kind++ {
		for set := range 1 << len(allFields) {
			o := full(kind)
			want := true
			for i, f := range allFields {
				switch {
				case set>>i&1 == 0:
					unset(&o, f)
					want = want && !(kind == api.Make && f == "Type")
				case !names(kind, f):
					want = false
				}
			}
			mustRight(t, o, want)
		}
	}
}

// numberOf is where the number of that field stands.
func numberOf(o *api.Op, field string) *int {
	switch field {
	case "Node":
		return &o.Node
	case "Parent":
		return &o.Parent
	case "Ref":
		return &o.Ref
	case "Type":
		return &o.Type
	}
	return &o.NS
}

// P16.1: the bounds of the numbers.
func TestRightAsksTheNumbers(t *testing.T) {
	for kind := api.Make; kind <= api.Quirks; kind++ {
		for _, field := range []string{"Node", "Parent", "Ref"} {
			for _, n := range []int{math.MinInt, -1 << 32, -1 << 31, -1, 0, 1, 1<<31 - 2, 1<<31 - 1, 1 << 31, 1<<31 + 1, 1<<32 - 1, 1 << 32, 1<<32 + 1, math.MaxInt} {
				o := only(full(kind))
				*numberOf(&o, field) = n
				mustRight(t, o, n == 0 || names(kind, field) && n > 0 && n <= 1<<31-1)
			}
		}
	}
}

func TestRightAsksTypeAndNS(t *testing.T) {
	types := []int{math.MinInt, -1, 0, api.Document, api.DoctypeNode, api.Element, api.TextNode, api.CommentNode, api.Content, 7, 256 + api.Element, 1<<32 + api.Element, math.MaxInt}
	spaces := []int{math.MinInt, -1, 0, api.HTML, api.SVG, 3, 256, 257, 1<<32 + 1, math.MaxInt}
	for kind := api.Make; kind <= api.Quirks; kind++ {
		for _, n := range types {
			for _, ns := range spaces {
				o := only(full(kind))
				o.Type, o.NS = n, ns
				want := n == 0 && ns == 0
				if kind == api.Make {
					want = (n == api.DoctypeNode || n == api.Element || n == api.CommentNode) && (ns == 0 || ns == api.HTML || ns == api.SVG)
				}
				mustRight(t, o, want)
			}
		}
	}
}

// P16.1: of a Make all that it names may be there, whatever is made, and the names of attributes are not asked.
func TestRightLetsMakeHaveAll(t *testing.T) {
	for _, kind := range []int{api.DoctypeNode, api.Element, api.CommentNode} {
		mustRight(t, api.Op{Kind: api.Make, Type: kind, Node: 1, NS: api.SVG, Name: "p", Attrs: []api.Attr{{}, {}, {Name: "a"}, {Name: "a", Value: "2"}}, Text: "t"}, true)
		mustRight(t, api.Op{Kind: api.Make, Type: kind, Name: "\xFF", Attrs: []api.Attr{{Name: "\xFF", Value: "\xC0"}}, Text: "\xED\xA0\x80"}, true)
		mustRight(t, api.Op{Kind: api.Make, Type: kind}, true)
	}
}

func TestRightOfEmptyAttrs(t *testing.T) {
	room := []api.Attr{{Name: "spare", Value: "spare"}}
	for kind := api.Make; kind <= api.Quirks; kind++ {
		o := only(full(kind))
		for _, l := range [][]api.Attr{nil, {}, make([]api.Attr, 0, 3), room[:0]} {
			o.Attrs = l
			mustRight(t, o, true)
		}
		o.Attrs = []api.Attr{{}}
		mustRight(t, o, names(kind, "Attrs"))
	}
	for _, kind := range []int{0, 12} {
		mustRight(t, api.Op{Kind: kind, Attrs: []api.Attr{}}, false)
	}
}

func TestRightAgainstTheWords(t *testing.T) {
	d := dice(1)
	count := 0
	for range 200000 {
		for _, o := range []api.Op{d.any(), d.near()} {
			want := rightByWords(o)
			mustRight(t, o, want)
			if want {
				count++
			}
		}
	}
	if count < 10000 {
		t.Errorf("just %d of those that were drawn were Right", count)
	}
}

// P16.1: Same, of operations that differ in one field alone.
func TestSameAsksEachField(t *testing.T) {
	turns := []func(o *api.Op){
		func(o *api.Op) { o.Kind++ },
		func(o *api.Op) { o.Kind += 1 << 32 },
		func(o *api.Op) { o.Node++ },
		func(o *api.Op) { o.Node = -o.Node },
		func(o *api.Op) { o.Parent++ },
		func(o *api.Op) { o.Ref++ },
		func(o *api.Op) { o.Ref += 1 << 32 },
		func(o *api.Op) { o.Type++ },
		func(o *api.Op) { o.NS++ },
		func(o *api.Op) { o.Name = "q" },
		func(o *api.Op) { o.Name = "P" },
		func(o *api.Op) { o.Name = "" },
		func(o *api.Op) { o.Text = "u" },
		func(o *api.Op) { o.Text += "\x00" },
		func(o *api.Op) { o.Text = "" },
		func(o *api.Op) { o.Attrs = nil },
		func(o *api.Op) { o.Attrs = o.Attrs[:1] },
		func(o *api.Op) { o.Attrs = o.Attrs[1:] },
		func(o *api.Op) { o.Attrs = append(slices.Clone(o.Attrs), api.Attr{}) },
		func(o *api.Op) { o.Attrs = append(slices.Clone(o.Attrs), o.Attrs[1]) },
		func(o *api.Op) { o.Attrs = []api.Attr{o.Attrs[1], o.Attrs[0]} },
		func(o *api.Op) { o.Attrs = []api.Attr{o.Attrs[0], o.Attrs[0]} },
		func(o *api.Op) { o.Attrs = []api.Attr{{Name: "c", Value: "1"}, o.Attrs[1]} },
		func(o *api.Op) { o.Attrs = []api.Attr{o.Attrs[0], {Name: "b", Value: "24"}} },
		func(o *api.Op) { o.Attrs = []api.Attr{o.Attrs[0], {Name: "B", Value: "23"}} },
		func(o *api.Op) { o.Attrs = []api.Attr{{Name: "a1"}, {Name: "b2", Value: "3"}} },
		func(o *api.Op) { o.Name, o.Text = "", "pt" },
	}
	for i, turn := range turns {
		a, b := full(api.Make), full(api.Make)
		mustSame(t, a, b, true)
		turn(&b)
		mustSame(t, a, b, false)
		mustSame(t, b, b, true)
		if !sameByWords(a, full(api.Make)) {
			t.Errorf("turn %d turned both", i)
		}
	}
}

func TestSameOfEmptyAttrs(t *testing.T) {
	room := []api.Attr{{Name: "spare"}}
	for _, a := range [][]api.Attr{nil, {}, room[:0]} {
		for _, b := range [][]api.Attr{nil, {}, make([]api.Attr, 0, 3)} {
			mustSame(t, api.Op{Kind: api.More, Attrs: a}, api.Op{Kind: api.More, Attrs: b}, true)
		}
		mustSame(t, api.Op{Kind: api.More, Attrs: a}, api.Op{Kind: api.More, Attrs: []api.Attr{{}}}, false)
	}
}

// TestSameLooksAtNoSpareRoom: lists that are the same up to their length are the same.
func TestSameLooksAtNoSpareRoom(t *testing.T) {
	x := []api.Attr{{Name: "a"}, {Name: "x"}}
	y := []api.Attr{{Name: "a"}, {Name: "y"}}
	mustSame(t, api.Op{Attrs: x[:1]}, api.Op{Attrs: y[:1]}, true)
	mustSame(t, api.Op{Attrs: x}, api.Op{Attrs: y}, false)
	mustSame(t, api.Op{Attrs: x}, api.Op{Attrs: x[:1]}, false)
}

// TestSameOfAll holds all samples, and such that are not Right, against each other.
func TestSameOfAll(t *testing.T) {
	all := samples()
	for kind := -1; kind <= 13; kind++ {
		all = append(all, api.Op{Kind: kind, Node: -7}, full(kind))
	}
	for _, a := range all {
		for _, b := range all {
			mustSame(t, a, b, sameByWords(a, b))
		}
	}
	for i, a := range samples() {
		mustSame(t, a, samples()[i], true)
	}
}

func TestSameAgainstTheWords(t *testing.T) {
	d := dice(2)
	for range 100000 {
		a, b := d.near(), d.near()
		mustSame(t, a, b, sameByWords(a, b))
		c := a
		c.Attrs = slices.Clone(a.Attrs)
		mustSame(t, a, c, true)
	}
}

// P16.3: each field in its place.
func TestTextOfEachKind(t *testing.T) {
	want := []string{
		`1 1 0 0 3 1 p a=1 b=23 "t"`, `1 0 0 0 5 0  ""`,
		`2 1 2 0 0 0  ""`, `2 0 0 0 0 0  ""`,
		`3 1 0 3 0 0  ""`, `3 0 0 0 0 0  ""`,
		`4 1 2 3 0 0  ""`, `4 0 0 0 0 0  ""`,
		`5 0 2 0 0 0  "t"`, `5 0 0 0 0 0  ""`,
		`6 0 2 3 0 0  "t"`, `6 0 0 0 0 0  ""`,
		`7 1 0 0 0 0  ""`, `7 0 0 0 0 0  ""`,
		`8 0 2 3 0 0  ""`, `8 0 0 0 0 0  ""`,
		`9 1 0 3 0 0  ""`, `9 0 0 0 0 0  ""`,
		`10 1 0 0 0 0  a=1 b=23 ""`, `10 0 0 0 0 0  ""`,
		`11 0 0 0 0 0  ""`, `11 0 0 0 0 0  ""`,
	}
	for i, o := range samples() {
		mustText(t, o, want[i])
	}
}

func TestTextOfOtherFields(t *testing.T) {
	mustText(t, api.Op{}, `0 0 0 0 0 0  ""`)
	mustText(t, api.Op{Kind: 12, Node: 34, Parent: 56, Ref: 78, Type: 90, NS: 123, Name: "n", Text: "t"}, `12 34 56 78 90 123 n "t"`)
	mustText(t, api.Op{Kind: -1, Node: -2, Parent: -3, Ref: -4, Type: -5, NS: -6}, `-1 -2 -3 -4 -5 -6  ""`)
	mustText(t, api.Op{Kind: math.MaxInt64, Node: math.MinInt64, Parent: 1<<31 - 1, Ref: 1 << 31}, `9223372036854775807 -9223372036854775808 2147483647 2147483648 0 0  ""`)
	mustText(t, full(api.Quirks), `11 1 2 3 3 1 p a=1 b=23 "t"`)
}

// P16.3: nothing within names, values and texts is told otherwise than it stands.
func TestTextTellsTextsAsTheyAre(t *testing.T) {
	mustText(t, api.Op{Name: " ", Text: " "}, `0 0 0 0 0 0   " "`)
	mustText(t, api.Op{Name: `a "b`, Text: `"`}, `0 0 0 0 0 0 a "b """`)
	mustText(t, api.Op{Text: `\"`}, `0 0 0 0 0 0  "\""`)
	mustText(t, api.Op{Name: "a=b", Text: "c=d"}, `0 0 0 0 0 0 a=b "c=d"`)
	mustText(t, api.Op{Attrs: []api.Attr{{}}}, `0 0 0 0 0 0  = ""`)
	mustText(t, api.Op{Attrs: []api.Attr{{}, {}}}, `0 0 0 0 0 0  = = ""`)
	mustText(t, api.Op{Name: "p", Attrs: []api.Attr{{Name: "a b", Value: "c d"}, {Name: `"`, Value: `""`}, {Name: "=", Value: "=="}}}, `0 0 0 0 0 0 p a b=c d "="" ==== ""`)
	mustText(t, api.Op{Name: "b", Attrs: []api.Attr{{Name: "z"}, {Name: "a"}, {Name: "z", Value: "2"}}}, `0 0 0 0 0 0 b z= a= z=2 ""`)
	mustText(t, api.Op{Name: "\x00\n", Attrs: []api.Attr{{Name: "\xFF", Value: "\u00e4"}}, Text: "\xED\xA0\x80\t"}, "0 0 0 0 0 0 \x00\n \xFF=\u00e4 \"\xED\xA0\x80\t\"")
	mustText(t, api.Op{Attrs: []api.Attr{}}, `0 0 0 0 0 0  ""`)
}

func TestTextAgainstTheWords(t *testing.T) {
	d := dice(3)
	for range 100000 {
		o := d.any()
		mustText(t, o, textByWords(o))
	}
	long := strings.Repeat("a b", 1<<20)
	o := api.Op{Kind: api.Make, Name: long, Attrs: []api.Attr{{Name: long, Value: long}}, Text: long}
	if Text(o) != textByWords(o) {
		t.Error("Text of long texts")
	}
}
