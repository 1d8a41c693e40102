package active

import (
	"slices"
	"strconv"
	"strings"
	"testing"

	"arbour/api"
)

// en reads "b", "b#7" with a handle, "b#7[x=1][y=2]" with attributes, and "|", a marker; _ is an empty name.
func en(s string) Entry[int] {
	if s == "|" {
		return Entry[int]{Marker: true}
	}
	head, rest, some := strings.Cut(s, "[")
	name, handle, _ := strings.Cut(head, "#")
	x := Entry[int]{Name: name}
	if name == "_" {
		x.Name = ""
	}
	x.H, _ = strconv.Atoi(handle)
	if some {
		x.Attrs = list(strings.ReplaceAll(strings.TrimSuffix(rest, "]"), "][", " "))
	}
	return x
}

// list reads "x=1 y=2".
func list(s string) []api.Attr {
	var l []api.Attr
	for _, one := range strings.Fields(s) {
		name, value, _ := strings.Cut(one, "=")
		l = append(l, api.Attr{Name: name, Value: value})
	}
	return l
}

// ens reads many; those without a handle have their place, counted from 1.
func ens(s string) []Entry[int] {
	var l []Entry[int]
	for i, one := range strings.Fields(s) {
		x := en(one)
		if !x.Marker && !strings.Contains(one, "#") {
			x.H = i + 1
		}
		l = append(l, x)
	}
	return l
}

// text tells x as en reads it; what a marker has besides is told, too.
func text(x Entry[int]) string {
	s := x.Name + "#" + strconv.Itoa(x.H)
	if x.Name == "" {
		s = "_" + s
	}
	for _, a := range x.Attrs {
		s += "[" + a.Name + "=" + a.Value + "]"
	}
	if x.Marker {
		return strings.TrimSuffix("|"+s, "_#0")
	}
	return s
}

func texts(l []Entry[int]) string {
	var out []string
	for _, x := range l {
		out = append(out, text(x))
	}
	return strings.Join(out, " ")
}

// label is the handle that stands for h among texts; 0 is the empty one, zero of its type.
func label(h int) string {
	if h == 0 {
		return ""
	}
	return "h" + strconv.Itoa(h)
}

// unlabel is the other way round.
func unlabel(s string) int {
	h, _ := strconv.Atoi(strings.TrimPrefix(s, "h"))
	return h
}

// pair is a list with ints as handles and one with texts: the same is done to both, and both must tell the same.
type pair struct {
	t     *testing.T
	ints  *List[int]
	texts *List[string]
}

func newPair(t *testing.T) pair { return pair{t, New[int](), New[string]()} }

// made is a pair with these entries, none of which went because of another.
func made(t *testing.T, s string) pair {
	p := newPair(t)
	for i, x := range ens(s) {
		if x.Marker {
			p.mark()
		} else {
			p.put(i, text(x))
		}
	}
	return p
}

// agree asks whether both lists told the same.
func agree[T comparable](p pair, what string, a, b T) T {
	p.t.Helper()
	if a != b {
		p.t.Errorf("%s: %v with ints, %v with texts", what, a, b)
	}
	return a
}

// agreeOn asks whether both lists told the same entry; beside false it must be zero.
func (p pair) agreeOn(what string, x Entry[int], ok bool, y Entry[string], too bool) (Entry[int], bool) {
	p.t.Helper()
	agree(p, what, ok, too)
	if y.Marker != x.Marker || y.H != label(x.H) || y.Name != x.Name || !slices.Equal(y.Attrs, x.Attrs) {
		p.t.Errorf("%s: %v with ints, %v with texts", what, x, y)
	}
	if !ok && (x.Marker || x.H != 0 || x.Name != "" || x.Attrs != nil) {
		p.t.Errorf("%s: %v beside false", what, x)
	}
	return x, ok
}

// push pushes these, one after the other.
func (p pair) push(s string) {
	for _, one := range strings.Fields(s) {
		x := en(one)
		p.ints.Push(x.H, x.Name, x.Attrs)
		p.texts.Push(label(x.H), x.Name, x.Attrs)
	}
}

func (p pair) mark() {
	p.ints.Mark()
	p.texts.Mark()
}

func (p pair) clear() {
	p.ints.Clear()
	p.texts.Clear()
}

func (p pair) find(name string) (Entry[int], bool) {
	p.t.Helper()
	x, ok := p.ints.Find(name)
	y, too := p.texts.Find(name)
	return p.agreeOn("Find("+name+")", x, ok, y, too)
}

func (p pair) place(h int) int {
	p.t.Helper()
	return agree(p, "Place", p.ints.Place(h), p.texts.Place(label(h)))
}

func (p pair) remove(h int) bool {
	p.t.Helper()
	return agree(p, "Remove", p.ints.Remove(h), p.texts.Remove(label(h)))
}

func (p pair) replace(h, with int) bool {
	p.t.Helper()
	return agree(p, "Replace", p.ints.Replace(h, with), p.texts.Replace(label(h), label(with)))
}

func (p pair) put(i int, s string) {
	x := en(s)
	p.ints.Put(i, x.H, x.Name, x.Attrs)
	p.texts.Put(i, label(x.H), x.Name, x.Attrs)
}

func (p pair) length() int {
	p.t.Helper()
	return agree(p, "Len", p.ints.Len(), p.texts.Len())
}

func (p pair) at(i int) (Entry[int], bool) {
	p.t.Helper()
	x, ok := p.ints.At(i)
	y, too := p.texts.At(i)
	return p.agreeOn("At("+strconv.Itoa(i)+")", x, ok, y, too)
}

func (p pair) from(is func(h int) bool) int {
	p.t.Helper()
	return agree(p, "From", p.ints.From(is), p.texts.From(func(h string) bool { return is(unlabel(h)) }))
}

// all tells what the lists hold.
func (p pair) all() []Entry[int] {
	p.t.Helper()
	var l []Entry[int]
	for i := range p.length() {
		x, ok := p.at(i)
		if !ok {
			p.t.Errorf("At(%d) of %d: false", i, p.length())
		}
		l = append(l, x)
	}
	return l
}

// mustHold asks for all that a list of these entries holds.
func (p pair) mustHold(said, want string) {
	p.t.Helper()
	l := ens(want)
	if got := texts(p.all()); got != texts(l) {
		p.t.Errorf("%s: %s, want %s", said, got, texts(l))
		return
	}
	if p.length() != len(l) {
		p.t.Errorf("%s: Len: %d, want %d", said, p.length(), len(l))
	}
}

// mustFind asks for what Find tells; an empty want is none.
func (p pair) mustFind(name, want string) {
	p.t.Helper()
	x, ok := p.find(name)
	if got := text(x); ok != (want != "") || ok && got != want {
		p.t.Errorf("Find(%s): %s, %v, want %s", name, got, ok, want)
	}
}

func mustBe[T comparable](t *testing.T, said string, got, want T) {
	t.Helper()
	if got != want {
		t.Errorf("%s: %v, want %v", said, got, want)
	}
}
