package open

import (
	"slices"
	"strconv"
	"strings"
	"testing"

	"arbour/api"
)

// el reads "p", or "p#7" with a handle; ~ stands ahead of one of SVG, ? of one that is of neither namespace, and _ is an empty name.
func el(s string) Item[int] {
	name, handle, _ := strings.Cut(s, "#")
	x := Item[int]{NS: api.HTML, Name: name}
	switch name[0] {
	case '~':
		x.NS, x.Name = api.SVG, name[1:]
	case '?':
		x.NS, x.Name = 0, name[1:]
	}
	if x.Name == "_" {
		x.Name = ""
	}
	x.H, _ = strconv.Atoi(handle)
	return x
}

// els reads many; those without a handle have their place, counted from 1.
func els(s string) []Item[int] {
	var l []Item[int]
	for i, one := range strings.Fields(s) {
		x := el(one)
		if !strings.Contains(one, "#") {
			x.H = i + 1
		}
		l = append(l, x)
	}
	return l
}

// text tells x as el reads it; what has attributes tells them, too.
func text(x Item[int]) string {
	s := x.Name + "#" + strconv.Itoa(x.H)
	if x.Name == "" {
		s = "_" + s
	}
	switch x.NS {
	case api.SVG:
		s = "~" + s
	case api.HTML:
	default:
		s = "?" + s
	}
	for _, a := range x.Attrs {
		s += "[" + a.Name + "=" + a.Value + "]"
	}
	return s
}

func texts(l []Item[int]) string {
	var out []string
	for _, x := range l {
		out = append(out, text(x))
	}
	return strings.Join(out, " ")
}

// label is the handle that stands for h among texts; 0 is the empty one, zero of its type.
func label(h int) string {
	if h == 0 {
		return ""
	}
	return "h" + strconv.Itoa(h)
}

// labelled is x with a text as its handle.
func labelled(x Item[int]) Item[string] {
	return Item[string]{H: label(x.H), NS: x.NS, Name: x.Name, Attrs: x.Attrs}
}

// pair is a list with ints as handles and one with texts: the same is done to both, and both must tell the same.
type pair struct {
	t     *testing.T
	ints  *List[int]
	texts *List[string]
}

func newPair(t *testing.T) pair { return pair{t, New[int](), New[string]()} }

// made is a pair with these elements.
func made(t *testing.T, s string) pair {
	p := newPair(t)
	for _, x := range els(s) {
		p.push(x)
	}
	return p
}

// agree asks whether both lists told the same.
func agree[T comparable](p pair, what string, a, b T) T {
	p.t.Helper()
	if a != b {
		p.t.Errorf("%s: %v with ints, %v with texts", what, a, b)
	}
	return a
}

// agreeOn asks whether both lists told the same element; beside false it must be zero.
func (p pair) agreeOn(what string, x Item[int], ok bool, y Item[string], too bool) (Item[int], bool) {
	p.t.Helper()
	agree(p, what, ok, too)
	want := labelled(x)
	if y.H != want.H || y.NS != want.NS || y.Name != want.Name || !slices.Equal(y.Attrs, want.Attrs) {
		p.t.Errorf("%s: %v with ints, %v with texts", what, x, y)
	}
	if !ok && (x.H != 0 || x.NS != 0 || x.Name != "" || x.Attrs != nil) {
		p.t.Errorf("%s: %v beside false", what, x)
	}
	return x, ok
}

func (p pair) push(x Item[int]) {
	p.ints.Push(x)
	p.texts.Push(labelled(x))
}

func (p pair) pop() (Item[int], bool) {
	p.t.Helper()
	x, ok := p.ints.Pop()
	y, too := p.texts.Pop()
	return p.agreeOn("Pop", x, ok, y, too)
}

func (p pair) top() (Item[int], bool) {
	p.t.Helper()
	x, ok := p.ints.Top()
	y, too := p.texts.Top()
	return p.agreeOn("Top", x, ok, y, too)
}

func (p pair) at(i int) (Item[int], bool) {
	p.t.Helper()
	x, ok := p.ints.At(i)
	y, too := p.texts.At(i)
	return p.agreeOn("At("+strconv.Itoa(i)+")", x, ok, y, too)
}

func (p pair) length() int {
	p.t.Helper()
	return agree(p, "Len", p.ints.Len(), p.texts.Len())
}

func (p pair) place(h int) int {
	p.t.Helper()
	return agree(p, "Place", p.ints.Place(h), p.texts.Place(label(h)))
}

func (p pair) remove(h int) bool {
	p.t.Helper()
	return agree(p, "Remove", p.ints.Remove(h), p.texts.Remove(label(h)))
}

func (p pair) replace(h int, x Item[int]) bool {
	p.t.Helper()
	return agree(p, "Replace", p.ints.Replace(h, x), p.texts.Replace(label(h), labelled(x)))
}

func (p pair) after(h int, x Item[int]) bool {
	p.t.Helper()
	return agree(p, "After", p.ints.After(h, x), p.texts.After(label(h), labelled(x)))
}

func (p pair) has(name string) bool {
	p.t.Helper()
	return agree(p, "Has", p.ints.Has(name), p.texts.Has(name))
}

func (p pair) scope(kind int, list ...string) bool {
	p.t.Helper()
	return agree(p, "Scope", p.ints.Scope(kind, list...), p.texts.Scope(kind, list...))
}

func (p pair) until(list ...string) int {
	p.t.Helper()
	return agree(p, "Until", p.ints.Until(list...), p.texts.Until(list...))
}

func (p pair) imply(but string) {
	p.ints.Imply(but)
	p.texts.Imply(but)
}

func (p pair) thorough() {
	p.ints.Thorough()
	p.texts.Thorough()
}

func (p pair) clear(list ...string) {
	p.ints.Clear(list...)
	p.texts.Clear(list...)
}

// all tells what the lists hold.
func (p pair) all() []Item[int] {
	p.t.Helper()
	var l []Item[int]
	for i := range p.length() {
		x, ok := p.at(i)
		if !ok {
			p.t.Errorf("At(%d) of %d: false", i, p.length())
		}
		l = append(l, x)
	}
	return l
}

// mustHold asks for all that a list of these elements tells of itself.
func (p pair) mustHold(said, want string) {
	p.t.Helper()
	l := els(want)
	if got := texts(p.all()); got != texts(l) {
		p.t.Errorf("%s: %s, want %s", said, got, texts(l))
		return
	}
	if p.length() != len(l) {
		p.t.Errorf("%s: Len: %d, want %d", said, p.length(), len(l))
	}
	if x, ok := p.top(); ok != (len(l) > 0) || ok && text(x) != text(l[len(l)-1]) {
		p.t.Errorf("%s: Top: %s, %v of %s", said, text(x), ok, texts(l))
	}
}

func mustBe[T comparable](t *testing.T, said string, got, want T) {
	t.Helper()
	if got != want {
		t.Errorf("%s: %v, want %v", said, got, want)
	}
}

// The chapters' lists, written out.
const (
	bounding  = "applet html marquee object table td template th"
	points    = "foreignObject desc title"
	implied   = "dd dt li p"
	inTables  = "tbody td tfoot th thead tr"
	ofLists   = "ol ul"
	ofTables  = "html table template"
	ofButtons = "button"
	// others are names that none of these lists has, and some that look like theirs.
	others = "body head div a b i h1 form span svg g input pre address section caption colgroup select option optgroup rb rp rt rtc menu dir foreignobject Desc Title P LI UL TABLE HTML pp l tables butto button1 _ x"
)

// known are all names of the lists, each once.
func known() []string {
	l := strings.Fields(strings.Join([]string{bounding, points, implied, inTables, ofLists, ofTables, ofButtons, others}, " "))
	slices.Sort(l)
	return slices.Compact(l)
}

func in(list, name string) bool { return slices.Contains(strings.Fields(list), name) }
