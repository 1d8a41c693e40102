package arena

import (
	"runtime"
	"slices"
	"testing"
	"unsafe"

	"arbour/api"
)

// stretch is a piece of memory, from its first byte to behind its last one.
type stretch struct{ from, to uintptr }

func stretchOf[T any](l []T) stretch {
	from := uintptr(unsafe.Pointer(unsafe.SliceData(l)))
	var one T
	return stretch{from, from + uintptr(cap(l))*unsafe.Sizeof(one)}
}

func wordOf(s string) stretch {
	from := uintptr(unsafe.Pointer(unsafe.StringData(s)))
	return stretch{from, from + uintptr(len(s))}
}

func nodesOf(t *api.Tree) []*api.Tree {
	all := []*api.Tree{t}
	for i := range t.Kids {
		all = append(all, nodesOf(&t.Kids[i])...)
	}
	return all
}

// memoryOf are the stretches of all lists of t, spare room too, and of all its texts.
func memoryOf(t api.Tree) []stretch {
	var all []stretch
	for _, n := range nodesOf(&t) {
		all = append(all, stretchOf(n.Attrs), stretchOf(n.Kids), wordOf(n.Name), wordOf(n.Text))
		for _, a := range n.Attrs {
			all = append(all, wordOf(a.Name), wordOf(a.Value))
		}
	}
	return slices.DeleteFunc(all, func(s stretch) bool { return s.from >= s.to })
}

// rich is a tree whose texts and lists lie in memory of their own.
func rich() api.Tree {
	words := func(s string) string { return string(append([]byte(nil), s...)) }
	l := []api.Attr{{Name: words("first"), Value: words("one")}, {Name: words("second"), Value: words("two")}}
	m := []api.Attr{{Name: words("third"), Value: words("three")}}
	return doc(
		doctype(words("doctype")),
		with(el(words("division"), text(words("some text")), comment(words("a comment"))), l...),
		el(words("template"), content(with(el(words("within"), text(words("more text"))), m...))),
	)
}

// mustBeApart asks whether any two lists or texts of the trees, or two of the other lists, share memory. All of them are alive until it has asked: what is freed may be given out again.
func mustBeApart(t *testing.T, said string, trees []api.Tree, lists ...[]int) {
	t.Helper()
	var l []stretch
	for _, x := range trees {
		l = append(l, memoryOf(x)...)
	}
	for _, x := range lists {
		if cap(x) > 0 {
			l = append(l, stretchOf(x))
		}
	}
	for i, a := range l {
		for j, b := range l[:i] {
			if a.from < b.to && b.from < a.to {
				t.Errorf("%s: stretches %d and %d share memory", said, i, j)
			}
		}
	}
	runtime.KeepAlive(trees)
	runtime.KeepAlive(lists)
}

// keptBy are the nodes as the arena keeps them, their texts aside, which are bytes.
func keptBy(a *Arena) []api.Tree {
	var all []api.Tree
	for _, n := range a.nodes {
		all = append(all, api.Tree{Name: n.name, Attrs: n.attrs})
	}
	return all
}

// TestAnswersAreNewMemory holds what was handed in, what is kept and several answers against each other.
func TestAnswersAreNewMemory(t *testing.T) {
	x := rich()
	a, why := Of(x)
	if why != api.OK {
		t.Fatalf("Of: %v", why)
	}
	all := append(keptBy(a), x)
	var lists [][]int
	for range 2 {
		y, _ := a.Pure(0)
		z, _ := a.Pure(2)
		all = append(all, y, z)
		for n := range a.Len() {
			one, _ := a.Node(n)
			all = append(all, one)
			lists = append(lists, a.Kids(n))
		}
	}
	mustBeApart(t, "Of, Pure, Node, Kids", all, lists...)
}

func TestWhatIsHandedInIsNotKept(t *testing.T) {
	x := rich()
	a := New()
	n, _ := a.Make(api.Element, api.HTML, x.Kids[1].Name, x.Kids[1].Attrs, "")
	a.Make(api.TextNode, 0, "", nil, x.Kids[1].Kids[0].Text)
	a.Make(api.DoctypeNode, 0, x.Kids[0].Name, nil, "")
	a.More(n, x.Kids[2].Kids[0].Kids[0].Attrs)
	a.Write(n, x.Kids[1].Kids[1].Text)
	all := append(keptBy(a), x)
	for at := range a.Len() {
		one, _ := a.Node(at)
		all = append(all, one)
	}
	mustBeApart(t, "Make, Write, More", all)
}

// TestHandedInListsAreTurnedAfterwards, and their spare room too: nothing of it is seen.
func TestHandedInListsAreTurnedAfterwards(t *testing.T) {
	room := []api.Attr{{Name: "a", Value: "1"}, {Name: "b", Value: "2"}, {Name: "s", Value: "spare"}, {Name: "s", Value: "spare"}}
	was := slices.Clone(room)
	a := New()
	n, _ := a.Make(api.Element, api.HTML, "p", room[:2], "")
	more := slices.Clone(room)
	more[0].Name, more[1].Name = "c", "d"
	wasMore := slices.Clone(more)
	a.More(n, more[:2])
	a.More(n, []api.Attr{{Name: "e"}})
	if !slices.Equal(room, was) || !slices.Equal(more, wasMore) {
		t.Errorf("a list that was handed in is %v, %v", room, more)
	}
	for i := range room {
		room[i] = api.Attr{Name: "z", Value: "turned"}
		more[i] = room[i]
	}
	want := with(el("p"), api.Attr{Name: "a", Value: "1"}, api.Attr{Name: "b", Value: "2"}, api.Attr{Name: "c", Value: "1"}, api.Attr{Name: "d", Value: "2"}, api.Attr{Name: "e"})
	mustBe(t, a, n, want)
}

func TestTreesThatWereHandedInAreTurnedAfterwards(t *testing.T) {
	spare := append(make([]api.Tree, 0, 4), el("p", text("a")), comment("c"))
	spare[:3][2] = text("spare")
	x := doc(spare...)
	x.Kids[0].Attrs = append(make([]api.Attr, 0, 3), api.Attr{Name: "a", Value: "1"})
	x.Kids[0].Attrs[:2][1] = api.Attr{Name: "spare"}
	want := doc(with(el("p", text("a")), api.Attr{Name: "a", Value: "1"}), comment("c"))
	a, why := Of(x)
	mustTell(t, "Of", why, api.OK)
	if x.Kids[0].Attrs[:2][1].Name != "spare" || spare[:3][2].Text != "spare" || brief(x) != brief(want) {
		t.Error("what was handed in has changed")
	}
	x.Kids[0].Attrs[0].Value = "turned"
	x.Kids[0].Kids[0].Text = "turned"
	x.Kids[1] = el("turned")
	mustBe(t, a, 0, want)
	a.More(1, []api.Attr{{Name: "b"}})
	a.Write(1, "b")
	if x.Kids[0].Attrs[:2][1].Name != "spare" || spare[:3][2].Text != "spare" || x.Kids[0].Kids[0].Text != "turned" {
		t.Error("a call on the arena is seen in the tree")
	}
}

// turnAll turns all of t, spare room too.
func turnAll(t *api.Tree) {
	for _, n := range nodesOf(t) {
		for i := range n.Attrs[:cap(n.Attrs)] {
			n.Attrs[:cap(n.Attrs)][i] = api.Attr{Name: "turned", Value: "turned"}
		}
		n.Kind, n.Name, n.Text = 9, "turned", "turned"
	}
	for _, n := range nodesOf(t) {
		for i := range n.Kids[:cap(n.Kids)] {
			n.Kids[:cap(n.Kids)][i] = api.Tree{Kind: 9}
		}
	}
}

func TestAnswersAreTurned(t *testing.T) {
	s := newScene()
	for n := range s.a.Len() {
		one, _ := s.a.Node(n)
		turnAll(&one)
		whole, _ := s.a.Pure(n)
		turnAll(&whole)
		kids := s.a.Kids(n)
		for i := range kids[:cap(kids)] {
			kids[:cap(kids)][i] = 99
		}
	}
	s.mustStay(t, "an answer that was turned")
	mustBePure(t, s.a, newScene().p)
}

// TestTheArenaGoesOnBesideAnswers: what was answered stays as it was.
func TestTheArenaGoesOnBesideAnswers(t *testing.T) {
	s := newScene()
	whole, _ := s.a.Pure(0)
	div, _ := s.a.Node(s.div)
	word, _ := s.a.Node(s.outer)
	kids := s.a.Kids(s.div)
	was := brief(whole) + brief(div) + brief(word)
	order := slices.Clone(kids)
	s.a.More(s.div, []api.Attr{{Name: "q"}})
	s.a.Write(s.template, "more")
	s.a.WriteBefore(s.g, "more")
	s.a.Detach(s.text)
	s.a.Append(s.div, s.loose)
	s.a.Before(s.comment, s.looseText)
	s.a.Move(s.content, s.g)
	if now := brief(whole) + brief(div) + brief(word); now != was || !slices.Equal(kids, order) {
		t.Errorf("an answer was %s, and is %s, %v", was, now, kids)
	}
}

// TestTextsGrowApart: texts that were told stay, and two that were one in an answer go on by themselves.
func TestTextsGrowApart(t *testing.T) {
	a := New()
	p := makeEl(t, a, "p")
	var told []string
	want := ""
	for i := range 200 {
		a.Write(p, string(rune('a'+i%26)))
		want += string(rune('a' + i%26))
		x, _ := a.Node(p + 1)
		told = append(told, x.Text)
	}
	for i, s := range told {
		if s != want[:i+1] {
			t.Fatalf("the text that was told as the %d-th is %q", i, s)
		}
	}
	b, _ := Of(doc(el("p", text("ab"))))
	x, _ := b.Pure(0)
	c, _ := Of(x)
	b.Write(1, "b")
	c.Write(1, "c")
	mustText(t, b, 2, "abb")
	mustText(t, c, 2, "abc")
	mustBe(t, a, p, el("p", text(want)))
	if x.Kids[0].Kids[0].Text != "ab" {
		t.Errorf("the tree is %s", brief(x))
	}
}
