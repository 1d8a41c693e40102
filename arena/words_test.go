package arena

import (
	"fmt"
	"slices"
	"testing"

	"arbour/api"
	"arbour/attrs"
	"arbour/tree"
)

// plain is the promise's words, one after the other: each node has a list of kids, and all else is looked for in these.
type plain struct {
	labels []api.Tree
	kids   [][]int
}

func newPlain() *plain {
	p := &plain{}
	p.next(api.Tree{Kind: api.Document})
	return p
}

func (p *plain) next(label api.Tree) int {
	p.labels = append(p.labels, label)
	p.kids = append(p.kids, nil)
	return len(p.labels) - 1
}

func (p *plain) none(n int) bool { return n < 0 || n >= len(p.labels) }

func (p *plain) parent(n int) (int, bool) {
	for up, kids := range p.kids {
		if slices.Contains(kids, n) {
			return up, true
		}
	}
	return 0, false
}

func (p *plain) within(n, top int) bool {
	return n == top || slices.ContainsFunc(p.kids[top], func(kid int) bool { return p.within(n, kid) })
}

func (p *plain) template(n int) bool {
	label := p.labels[n]
	return label.Kind == api.Element && label.NS == api.HTML && label.Name == "template"
}

func (p *plain) hasKind(n int, kinds ...int) bool { return slices.Contains(kinds, p.labels[n].Kind) }

func (p *plain) make(kind, ns int, name string, l []api.Attr, text string) (int, api.Errno) {
	if kind < api.DoctypeNode || kind > api.CommentNode {
		return 0, api.ErrKind
	}
	if kind == api.Element && (ns < api.HTML || ns > api.SVG || name == "") {
		return 0, api.ErrForm
	}
	label := api.Tree{Kind: kind, Text: text}
	if kind == api.Element {
		label = api.Tree{Kind: kind, NS: ns, Name: name, Attrs: attrs.Unique(l)}
	}
	if kind == api.DoctypeNode {
		label = api.Tree{Kind: kind, Name: name}
	}
	n := p.next(label)
	if p.template(n) {
		p.kids[n] = []int{p.next(api.Tree{Kind: api.Content})}
	}
	return n, api.OK
}

func (p *plain) append(parent, n int) api.Errno {
	if p.none(parent) || p.none(n) {
		return api.ErrNone
	}
	if !p.hasKind(parent, api.Document, api.Element, api.Content) || p.hasKind(n, api.Document, api.Content) {
		return api.ErrKind
	}
	if _, taken := p.parent(n); taken {
		return api.ErrTaken
	}
	if p.within(parent, n) {
		return api.ErrLoop
	}
	p.kids[parent] = append(p.kids[parent], n)
	return api.OK
}

func (p *plain) wrongRef(ref int) bool {
	_, hangs := p.parent(ref)
	return p.hasKind(ref, api.Document, api.Content) || !hangs
}

func (p *plain) insert(ref, n int) {
	up, _ := p.parent(ref)
	p.kids[up] = slices.Insert(p.kids[up], slices.Index(p.kids[up], ref), n)
}

func (p *plain) before(ref, n int) api.Errno {
	if p.none(ref) || p.none(n) {
		return api.ErrNone
	}
	if p.wrongRef(ref) || p.hasKind(n, api.Document, api.Content) {
		return api.ErrKind
	}
	if _, taken := p.parent(n); taken {
		return api.ErrTaken
	}
	if p.within(ref, n) {
		return api.ErrLoop
	}
	p.insert(ref, n)
	return api.OK
}

func (p *plain) detach(n int) api.Errno {
	if p.none(n) {
		return api.ErrNone
	}
	if p.hasKind(n, api.Document, api.Content) {
		return api.ErrKind
	}
	if up, ok := p.parent(n); ok {
		p.kids[up] = slices.DeleteFunc(p.kids[up], func(kid int) bool { return kid == n })
	}
	return api.OK
}

func (p *plain) move(from, to int) api.Errno {
	if p.none(from) || p.none(to) {
		return api.ErrNone
	}
	if !p.hasKind(from, api.Document, api.Element, api.Content) || !p.hasKind(to, api.Document, api.Element, api.Content) {
		return api.ErrKind
	}
	if p.within(to, from) {
		return api.ErrLoop
	}
	var stay []int
	for _, kid := range p.kids[from] {
		if p.hasKind(kid, api.Content) {
			stay = append(stay, kid)
		} else {
			p.kids[to] = append(p.kids[to], kid)
		}
	}
	p.kids[from] = stay
	return api.OK
}

func (p *plain) write(parent int, s string) api.Errno {
	if p.none(parent) {
		return api.ErrNone
	}
	if !p.hasKind(parent, api.Document, api.Element, api.Content) {
		return api.ErrKind
	}
	if s == "" || p.hasKind(parent, api.Document) {
		return api.OK
	}
	if kids := p.kids[parent]; len(kids) > 0 && p.hasKind(kids[len(kids)-1], api.TextNode) {
		p.labels[kids[len(kids)-1]].Text += s
		return api.OK
	}
	n := p.next(api.Tree{Kind: api.TextNode, Text: s})
	p.kids[parent] = append(p.kids[parent], n)
	return api.OK
}

func (p *plain) writeBefore(ref int, s string) api.Errno {
	if p.none(ref) {
		return api.ErrNone
	}
	if p.wrongRef(ref) {
		return api.ErrKind
	}
	up, _ := p.parent(ref)
	if s == "" || p.hasKind(up, api.Document) {
		return api.OK
	}
	if at := slices.Index(p.kids[up], ref); at > 0 && p.hasKind(p.kids[up][at-1], api.TextNode) {
		p.labels[p.kids[up][at-1]].Text += s
		return api.OK
	}
	p.insert(ref, p.next(api.Tree{Kind: api.TextNode, Text: s}))
	return api.OK
}

func (p *plain) more(n int, l []api.Attr) api.Errno {
	if p.none(n) {
		return api.ErrNone
	}
	if !p.hasKind(n, api.Element) {
		return api.ErrKind
	}
	p.labels[n].Attrs = attrs.More(p.labels[n].Attrs, l)
	return api.OK
}

func (p *plain) pure(n int) api.Tree {
	t := p.labels[n]
	for _, kid := range p.kids[n] {
		t.Kids = append(t.Kids, p.pure(kid))
	}
	return t
}

// mustAgree asks the arena all that can be asked of each number, and of some that are none.
func mustAgree(t *testing.T, a *Arena, p *plain) {
	t.Helper()
	if a.Len() != len(p.labels) {
		t.Errorf("Len: %d, want %d", a.Len(), len(p.labels))
		return
	}
	for n := range p.labels {
		if got, ok := a.Node(n); !ok || brief(got) != brief(p.labels[n]) {
			t.Errorf("Node(%d): %s, %v, want %s", n, brief(got), ok, brief(p.labels[n]))
		}
		if got := a.Kids(n); !slices.Equal(got, p.kids[n]) {
			t.Errorf("Kids(%d): %v, want %v", n, got, p.kids[n])
		}
		up, hangs := p.parent(n)
		if got, ok := a.Parent(n); got != up || ok != hangs {
			t.Errorf("Parent(%d): %d, %v, want %d, %v", n, got, ok, up, hangs)
		}
		inner := 0
		if p.template(n) {
			inner = p.kids[n][0]
		}
		if got, ok := a.Content(n); got != inner || ok != p.template(n) {
			t.Errorf("Content(%d): %d, %v, want %d", n, got, ok, inner)
		}
	}
	mustKnowNothingOf(t, a, -1, len(p.labels))
}

// mustBePure asks for the trees below all nodes.
func mustBePure(t *testing.T, a *Arena, p *plain) {
	t.Helper()
	for n := range p.labels {
		if got, why := a.Pure(n); why != api.OK || brief(got) != brief(p.pure(n)) {
			t.Errorf("Pure(%d): %s, %v, want %s", n, brief(got), why, brief(p.pure(n)))
		}
	}
}

// dice gives numbers that look like any, the same ones each time.
type dice struct{ state uint64 }

func (d *dice) below(n int) int {
	d.state = d.state*6364136223846793005 + 1442695040888963407
	return int((d.state >> 33) % uint64(n))
}

func (d *dice) word(l ...string) string { return l[d.below(len(l))] }

// number is one of a list of so many, seldom one that is none.
func (d *dice) number(size int) int {
	if d.below(40) == 0 {
		return []int{-1, size, -size, size + 1}[d.below(4)]
	}
	return d.below(size)
}

func (d *dice) attrs() []api.Attr {
	var l []api.Attr
	for range d.below(4) {
		l = append(l, api.Attr{Name: d.word("a", "b", "c", "A", ""), Value: d.word("", "1", "2")})
	}
	return l
}

// call makes one call on both, and tells it and what came of it.
func (d *dice) call(a *Arena, p *plain) (said string, got, want string) {
	n, k, s := d.number(a.Len()), d.number(a.Len()), d.word("", "x", "yz", "\xff")
	two := func(name string, x, y api.Errno) (string, string, string) {
		return fmt.Sprint(name, " ", n, " ", k, " ", s), fmt.Sprint(int(x)), fmt.Sprint(int(y))
	}
	switch d.below(12) {
	case 0, 1:
		kind, ns, name, l := api.Element, 1+d.below(2), d.word("p", "template", "template", "b"), d.attrs()
		if d.below(3) == 0 {
			kind, ns, name = d.below(9)-1, d.below(5)-1, d.word("", "p", "template")
		}
		x, why := a.Make(kind, ns, name, l, s)
		y, because := p.make(kind, ns, name, l, s)
		return fmt.Sprint("Make ", kind, ns, name, l, s), fmt.Sprint(x, int(why)), fmt.Sprint(y, int(because))
	case 2, 3, 4:
		return two("Append", a.Append(n, k), p.append(n, k))
	case 5, 6:
		return two("Before", a.Before(n, k), p.before(n, k))
	case 7:
		return two("Detach", a.Detach(n), p.detach(n))
	case 8:
		return two("Move", a.Move(n, k), p.move(n, k))
	case 9:
		return two("Write", a.Write(n, s), p.write(n, s))
	case 10:
		return two("WriteBefore", a.WriteBefore(n, s), p.writeBefore(n, s))
	}
	l := d.attrs()
	return two("More "+fmt.Sprint(l), a.More(n, l), p.more(n, l))
}

func TestAgainstTheWords(t *testing.T) {
	d := &dice{}
	told := map[string]int{}
	for range 1200 {
		a, p := New(), newPlain()
		run := ""
		for range 60 {
			said, got, want := d.call(a, p)
			run += said + "\n"
			told[want]++
			if got != want {
				t.Errorf("%s: %s, want %s", said, got, want)
			}
			mustAgree(t, a, p)
			if t.Failed() {
				t.Fatalf("the run:\n%s", run)
			}
		}
		mustBePure(t, a, p)
		mustComeBack(t, a, p)
	}
	for _, why := range []api.Errno{api.OK, api.ErrNone, api.ErrKind, api.ErrTaken, api.ErrLoop} {
		if told[fmt.Sprint(int(why))] < 100 {
			t.Errorf("%v was told %d times: too seldom", int(why), told[fmt.Sprint(int(why))])
		}
	}
}

// mustComeBack holds Of against tree.Right, and goes on with what it makes.
func mustComeBack(t *testing.T, a *Arena, p *plain) {
	t.Helper()
	x := p.pure(0)
	b, why := Of(x)
	if !tree.Right(x) {
		if b != nil || why != api.ErrForm {
			t.Errorf("Of(%s): %v", brief(x), why)
		}
		return
	}
	if b == nil || why != api.OK {
		t.Fatalf("Of(%s): %v", brief(x), why)
	}
	mustAgree(t, b, plainOf(x))
	mustBePure(t, b, plainOf(x))
}

// plainOf gives the nodes their numbers in order.
func plainOf(x api.Tree) *plain {
	p := &plain{}
	p.take(x)
	return p
}

func (p *plain) take(x api.Tree) int {
	label := x
	label.Kids = nil
	n := p.next(label)
	for _, kid := range x.Kids {
		below := p.take(kid)
		p.kids[n] = append(p.kids[n], below)
	}
	return n
}

// grow makes a tree that is right, of at most so many levels.
func (d *dice) grow(kind, levels int) api.Tree {
	n := oneOf(kind)
	if kind == api.Element {
		n = api.Tree{Kind: kind, NS: 1 + d.below(2), Name: d.word("p", "b", "template"), Attrs: attrs.Unique(d.attrs())}
	}
	if kind == api.Element && n.NS == api.HTML && n.Name == "template" {
		n.Kids = append(n.Kids, d.grow(api.Content, levels-1))
	}
	if levels <= 1 || kind != api.Document && kind != api.Element && kind != api.Content {
		return n
	}
	for range d.below(4) {
		next := []int{api.Element, api.Element, api.CommentNode, api.TextNode}[d.below(4)]
		if next == api.TextNode && (kind == api.Document || len(n.Kids) > 0 && n.Kids[len(n.Kids)-1].Kind == api.TextNode) {
			next = api.Element
		}
		if kind == api.Document && d.below(4) == 0 {
			next = api.DoctypeNode
		}
		n.Kids = append(n.Kids, d.grow(next, levels-1))
	}
	return n
}

// TestCallsOnAnArenaOfATree begins the runs with what Of made.
func TestCallsOnAnArenaOfATree(t *testing.T) {
	d := &dice{state: 1}
	for range 800 {
		x := d.grow(api.Document, 1+d.below(5))
		a, why := Of(x)
		if why != api.OK {
			t.Fatalf("Of(%s): %v", brief(x), why)
		}
		p := plainOf(x)
		mustAgree(t, a, p)
		mustBePure(t, a, p)
		if got, _ := a.Pure(0); !tree.Same(got, x) {
			t.Errorf("Pure(0): %s, want %s", brief(got), brief(x))
		}
		for range 25 {
			if said, got, want := d.call(a, p); got != want {
				t.Errorf("%s: %s, want %s", said, got, want)
			}
			mustAgree(t, a, p)
			if t.Failed() {
				t.Fatalf("of %s", brief(x))
			}
		}
		mustBePure(t, a, p)
	}
}

// TestEachCallOnEachPair makes every call with every two numbers of one scene, and some that are none.
func TestEachCallOnEachPair(t *testing.T) {
	size := newScene().a.Len()
	calls := []func(a *Arena, p *plain, n, k int) (api.Errno, api.Errno){
		func(a *Arena, p *plain, n, k int) (api.Errno, api.Errno) { return a.Append(n, k), p.append(n, k) },
		func(a *Arena, p *plain, n, k int) (api.Errno, api.Errno) { return a.Before(n, k), p.before(n, k) },
		func(a *Arena, p *plain, n, k int) (api.Errno, api.Errno) { return a.Move(n, k), p.move(n, k) },
		func(a *Arena, p *plain, n, k int) (api.Errno, api.Errno) {
			a.Detach(n)
			p.detach(n)
			return a.Append(k, n), p.append(k, n)
		},
		func(a *Arena, p *plain, n, k int) (api.Errno, api.Errno) {
			a.Detach(n)
			p.detach(n)
			return a.Before(k, n), p.before(k, n)
		},
		func(a *Arena, p *plain, n, k int) (api.Errno, api.Errno) {
			a.Write(n, "v")
			p.write(n, "v")
			return a.WriteBefore(k, "w"), p.writeBefore(k, "w")
		},
	}
	for i, call := range calls {
		for n := -1; n <= size; n++ {
			for k := -1; k <= size; k++ {
				s := newScene()
				p := s.plain()
				if got, want := call(s.a, p, n, k); got != want {
					t.Errorf("call %d of %d, %d: %v, want %v", i, n, k, got, want)
				}
				mustAgree(t, s.a, p)
				if t.Failed() {
					t.Fatalf("call %d of %d, %d", i, n, k)
				}
			}
		}
	}
}
