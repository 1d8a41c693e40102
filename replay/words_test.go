package replay

import (
	"fmt"
	"slices"
	"strings"
	"testing"

	"arbour/api"
	"arbour/arena"
	"arbour/attrs"
	"arbour/op"
)

// thing is a node of the promise's words: it has a list of kids, and all else is looked for in these.
type thing struct {
	label api.Tree
	kids  []*thing
}

func (x *thing) is(kinds ...int) bool { return slices.Contains(kinds, x.label.Kind) }

func (x *thing) template() bool {
	return x.is(api.Element) && x.label.NS == api.HTML && x.label.Name == "template"
}

func (x *thing) holds(y *thing) bool {
	return x == y || slices.ContainsFunc(x.kids, func(kid *thing) bool { return kid.holds(y) })
}

// words does operations as the promise's words say it, one after the other; all are the nodes as they were made.
type words struct {
	all    []*thing
	known  map[int]*thing
	quirky bool
}

func newWords() *words {
	w := &words{known: map[int]*thing{}}
	w.known[0] = w.next(api.Tree{Kind: api.Document})
	return w
}

func (w *words) next(label api.Tree) *thing {
	x := &thing{label: label}
	w.all = append(w.all, x)
	return x
}

func (w *words) parent(x *thing) *thing {
	for _, up := range w.all {
		if slices.Contains(up.kids, x) {
			return up
		}
	}
	return nil
}

// numbersOf are the numbers that an operation names, those aside that it gives.
func numbersOf(o api.Op) []int {
	switch o.Kind {
	case api.Append:
		return []int{o.Node, o.Parent}
	case api.Before:
		return []int{o.Node, o.Ref}
	case api.Foster:
		return []int{o.Node, o.Ref, o.Parent}
	case api.Write:
		return []int{o.Parent}
	case api.Pour, api.Move:
		return []int{o.Ref, o.Parent}
	case api.Inner:
		return []int{o.Ref}
	case api.Detach, api.More:
		return []int{o.Node}
	}
	return nil
}

func (w *words) do(o api.Op) api.Errno {
	if !op.Right(o) {
		return api.ErrForm
	}
	if (o.Kind == api.Make || o.Kind == api.Inner) && w.known[o.Node] != nil {
		return api.ErrTaken
	}
	for _, n := range numbersOf(o) {
		if w.known[n] == nil {
			return api.ErrNone
		}
	}
	node, parent, ref := w.known[o.Node], w.known[o.Parent], w.known[o.Ref]
	switch o.Kind {
	case api.Make:
		return w.make(o)
	case api.Append:
		return w.append(parent, node)
	case api.Before:
		return w.before(ref, node)
	case api.Foster:
		if w.parent(ref) != nil {
			return w.before(ref, node)
		}
		return w.append(parent, node)
	case api.Write:
		return w.write(parent, o.Text)
	case api.Pour:
		if w.parent(ref) != nil {
			return w.writeBefore(ref, o.Text)
		}
		return w.write(parent, o.Text)
	case api.Detach:
		return w.detach(node)
	case api.Move:
		return w.move(ref, parent)
	case api.Inner:
		if !ref.template() {
			return api.ErrKind
		}
		w.known[o.Node] = ref.kids[0]
	case api.More:
		if !node.is(api.Element) {
			return api.ErrKind
		}
		node.label.Attrs = attrs.More(node.label.Attrs, o.Attrs)
	case api.Quirks:
		w.quirky = true
	}
	return api.OK
}

func (w *words) make(o api.Op) api.Errno {
	label := api.Tree{Kind: o.Type, NS: o.NS, Name: o.Name, Attrs: attrs.Unique(o.Attrs)}
	switch o.Type {
	case api.Element:
		if o.NS == 0 || o.Name == "" {
			return api.ErrForm
		}
	case api.DoctypeNode:
		label = api.Tree{Kind: o.Type, Name: o.Name}
	case api.CommentNode:
		label = api.Tree{Kind: o.Type, Text: o.Text}
	}
	x := w.next(label)
	w.known[o.Node] = x
	if x.template() {
		x.kids = []*thing{w.next(api.Tree{Kind: api.Content})}
	}
	return api.OK
}

func (w *words) append(parent, x *thing) api.Errno {
	if !parent.is(api.Document, api.Element, api.Content) || x.is(api.Document, api.Content) {
		return api.ErrKind
	}
	if w.parent(x) != nil {
		return api.ErrTaken
	}
	if x.holds(parent) {
		return api.ErrLoop
	}
	parent.kids = append(parent.kids, x)
	return api.OK
}

func (w *words) mayFollow(ref *thing) bool {
	return !ref.is(api.Document, api.Content) && w.parent(ref) != nil
}

func (w *words) insert(ref, x *thing) {
	up := w.parent(ref)
	up.kids = slices.Insert(up.kids, slices.Index(up.kids, ref), x)
}

func (w *words) before(ref, x *thing) api.Errno {
	if !w.mayFollow(ref) || x.is(api.Document, api.Content) {
		return api.ErrKind
	}
	if w.parent(x) != nil {
		return api.ErrTaken
	}
	if x.holds(ref) {
		return api.ErrLoop
	}
	w.insert(ref, x)
	return api.OK
}

func (w *words) detach(x *thing) api.Errno {
	if x.is(api.Document, api.Content) {
		return api.ErrKind
	}
	if up := w.parent(x); up != nil {
		up.kids = slices.DeleteFunc(up.kids, func(kid *thing) bool { return kid == x })
	}
	return api.OK
}

func (w *words) move(from, to *thing) api.Errno {
	if !from.is(api.Document, api.Element, api.Content) || !to.is(api.Document, api.Element, api.Content) {
		return api.ErrKind
	}
	if from.holds(to) {
		return api.ErrLoop
	}
	var stay []*thing
	for _, kid := range from.kids {
		if kid.is(api.Content) {
			stay = append(stay, kid)
		} else {
			to.kids = append(to.kids, kid)
		}
	}
	from.kids = stay
	return api.OK
}

func (w *words) write(parent *thing, s string) api.Errno {
	if !parent.is(api.Document, api.Element, api.Content) {
		return api.ErrKind
	}
	if s == "" || parent.is(api.Document) {
		return api.OK
	}
	if size := len(parent.kids); size > 0 && parent.kids[size-1].is(api.TextNode) {
		parent.kids[size-1].label.Text += s
		return api.OK
	}
	parent.kids = append(parent.kids, w.next(api.Tree{Kind: api.TextNode, Text: s}))
	return api.OK
}

func (w *words) writeBefore(ref *thing, s string) api.Errno {
	if !w.mayFollow(ref) {
		return api.ErrKind
	}
	up := w.parent(ref)
	if s == "" || up.is(api.Document) {
		return api.OK
	}
	if at := slices.Index(up.kids, ref); at > 0 && up.kids[at-1].is(api.TextNode) {
		up.kids[at-1].label.Text += s
		return api.OK
	}
	w.insert(ref, w.next(api.Tree{Kind: api.TextNode, Text: s}))
	return api.OK
}

// tell writes what an arena of the same nodes, in the order they were made, would answer.
func (w *words) tell() string {
	var out strings.Builder
	at := map[*thing]int{}
	for i, x := range w.all {
		at[x] = i
	}
	for i, x := range w.all {
		up := -1
		if y := w.parent(x); y != nil {
			up = at[y]
		}
		var kids []int
		for _, kid := range x.kids {
			kids = append(kids, at[kid])
		}
		in := -1
		if x.template() {
			in = at[x.kids[0]]
		}
		out.WriteString(line(i, x.label, up, kids, in))
	}
	return fmt.Sprintf("%s%d nodes, quirky %v", out.String(), len(w.all), w.quirky)
}

func line(n int, label api.Tree, up int, kids []int, in int) string {
	return fmt.Sprintf("%d: %d %d %q %q %q, parent %d, kids %v, content %d\n", n, label.Kind, label.NS, label.Name, pairs(label.Attrs), label.Text, up, kids, in)
}

func pairs(l []api.Attr) []string {
	var out []string
	for _, a := range l {
		out = append(out, a.Name+"="+a.Value)
	}
	return out
}

// tell writes all that can be asked of an arena.
func tell(a *arena.Arena) string {
	var out strings.Builder
	for i := range a.Len() {
		label, _ := a.Node(i)
		up, hangs := a.Parent(i)
		if !hangs {
			up = -1
		}
		in, has := a.Content(i)
		if !has {
			in = -1
		}
		out.WriteString(line(i, label, up, a.Kids(i), in))
	}
	return fmt.Sprintf("%s%d nodes, quirky %v", out.String(), a.Len(), a.Quirky())
}

// knows asks whether a handle is known: a Make that arena refuses tells it, and changes nothing.
func knows(p *Player, handle int) bool {
	return p.Do(api.Op{Kind: api.Make, Node: handle, Type: api.Element}) == api.ErrTaken
}

// handles are the numbers that operations are drawn with.
var handles = []int{0, 1, 2, 3, 4, 5, 8, 255, 256, 65536, 1 << 24, 1<<31 - 2, 1<<31 - 1}

// mustAgree asks the Player all that can be asked.
func mustAgree(t *testing.T, p *Player, w *words) {
	t.Helper()
	for _, h := range handles {
		if got, want := knows(p, h), w.known[h] != nil; got != want {
			t.Errorf("handle %d is known: %v, want %v", h, got, want)
		}
	}
	if got, want := tell(p.Arena()), w.tell(); got != want {
		t.Errorf("the arena:\n%s\nwant\n%s", got, want)
	}
}

// dice gives numbers that look like any, the same ones each time.
type dice uint64

func (d *dice) below(n int) int {
	*d = *d*6364136223846793005 + 1442695040888963407
	return int(uint64(*d) >> 33 % uint64(n))
}

func (d *dice) word(l ...string) string { return l[d.below(len(l))] }

func (d *dice) attrs() []api.Attr {
	var l []api.Attr
	for range d.below(4) {
		l = append(l, api.Attr{Name: d.word("a", "b", "c", "A", ""), Value: d.word("", "1", "2")})
	}
	return l
}

// draw tells an operation, which is Right more often than not; of the handles the first ones come most often.
func (d *dice) draw() api.Op {
	handle := func() int { return handles[min(d.below(len(handles)), d.below(len(handles)))] }
	kind := []int{api.Make, api.Make, api.Make, api.Make, api.Append, api.Append, api.Append, api.Append, api.Before, api.Before, api.Foster, api.Foster, api.Write, api.Pour, api.Detach, api.Move, api.Inner, api.Inner, api.More, api.Quirks}[d.below(20)]
	if kind == api.Quirks && d.below(8) > 0 {
		kind = api.Append
	}
	o := api.Op{Kind: kind, Node: handle(), Parent: handle(), Ref: handle(), Text: d.word("", "x", "yz", "\xff"), Attrs: d.attrs()}
	o.Type, o.NS, o.Name = api.Element, 1+d.below(2), d.word("p", "template", "template", "b")
	if d.below(4) == 0 {
		o.Type, o.NS, o.Name = []int{api.DoctypeNode, api.Element, api.CommentNode}[d.below(3)], d.below(3), d.word("", "p", "template")
	}
	if d.below(50) == 0 {
		return o
	}
	return only(o)
}

// only takes away what the Kind does not name.
func only(o api.Op) api.Op {
	switch o.Kind {
	case api.Make:
		o.Parent, o.Ref = 0, 0
		return o
	case api.More:
		return api.Op{Kind: o.Kind, Node: o.Node, Attrs: o.Attrs}
	}
	o.Type, o.NS, o.Name, o.Attrs = 0, 0, "", nil
	if o.Kind != api.Write && o.Kind != api.Pour {
		o.Text = ""
	}
	switch o.Kind {
	case api.Append:
		o.Ref = 0
	case api.Before, api.Inner:
		o.Parent = 0
	case api.Write:
		o.Node, o.Ref = 0, 0
	case api.Pour, api.Move:
		o.Node = 0
	case api.Detach:
		o.Parent, o.Ref = 0, 0
	case api.Quirks:
		o.Node, o.Parent, o.Ref = 0, 0, 0
	}
	return o
}

func TestAgainstTheWords(t *testing.T) {
	d := dice(1)
	told := map[api.Errno]int{}
	done := map[int]int{}
	for range 1500 {
		p, w := New(), newWords()
		var all, good []api.Op
		for range 60 {
			o := d.draw()
			all = append(all, o)
			why := p.Do(o)
			if want := w.do(o); why != want {
				t.Errorf("%s: %v, want %v", op.Text(o), why, want)
			}
			told[why]++
			if why == api.OK {
				done[o.Kind]++
				good = append(good, o)
			}
			mustAgree(t, p, w)
			if t.Failed() {
				t.Fatalf("the run:\n%s", textOf(all))
			}
		}
		mustDoAll(t, all)
		mustDoAll(t, good)
		if t.Failed() {
			t.Fatalf("the run:\n%s", textOf(all))
		}
	}
	for _, why := range []api.Errno{api.OK, api.ErrForm, api.ErrTaken, api.ErrNone, api.ErrKind, api.ErrLoop} {
		if told[why] < 100 {
			t.Errorf("%v was told %d times: too seldom", int(why), told[why])
		}
	}
	for kind := api.Make; kind <= api.Quirks; kind++ {
		if done[kind] < 100 {
			t.Errorf("Kind %d was done %d times: too seldom", kind, done[kind])
		}
	}
}

func textOf(l []api.Op) string {
	var out strings.Builder
	for _, o := range l {
		out.WriteString(op.Text(o) + "\n")
	}
	return out.String()
}

// mustDoAll holds Do and Check against the words, up to the first refusal, and what went through bytes against both.
func mustDoAll(t *testing.T, l []api.Op) {
	t.Helper()
	w := newWords()
	place, because := len(l), api.OK
	for i, o := range l {
		if why := w.do(o); why != api.OK {
			place, because = i, why
			break
		}
	}
	mustDo(t, l, w, place, because)
	if b, why := op.Encode(l); why == api.OK {
		back, _ := op.Decode(b)
		mustDo(t, back, w, place, because)
	}
}

func mustDo(t *testing.T, l []api.Op, w *words, place int, because api.Errno) {
	t.Helper()
	a, n, why := Do(l)
	if n != place || why != because || (a != nil) != (because == api.OK) {
		t.Errorf("Do: %v, %d, %v, want %d, %v", a != nil, n, why, place, because)
		return
	}
	if got := Check(l); got != because {
		t.Errorf("Check: %v, want %v", got, because)
	}
	if a != nil && tell(a) != w.tell() {
		t.Errorf("Do:\n%s\nwant\n%s", tell(a), w.tell())
	}
}

// TestEachKindOnEachHandles does every Kind with every two or three handles of one scene, and some that are not known.
func TestEachKindOnEachHandles(t *testing.T) {
	all := append(sceneHandles(), 77, 1<<31-1)
	for kind := api.Make; kind <= api.Quirks; kind++ {
		tried := map[string]int{}
		for _, node := range all {
			for _, parent := range all {
				for _, ref := range all {
					o := only(api.Op{Kind: kind, Node: node, Parent: parent, Ref: ref, Type: api.Element, NS: api.HTML, Name: "template", Attrs: []api.Attr{{Name: "n", Value: "1"}}, Text: "new"})
					if tried[op.Text(o)]++; tried[op.Text(o)] > 1 {
						continue
					}
					p, w := New(), newWords()
					for _, one := range scene() {
						p.Do(one)
						w.do(one)
					}
					if got, want := p.Do(o), w.do(o); got != want {
						t.Errorf("%s: %v, want %v", op.Text(o), got, want)
					}
					if tell(p.Arena()) != w.tell() {
						t.Fatalf("behind %s:\n%s\nwant\n%s", op.Text(o), tell(p.Arena()), w.tell())
					}
				}
			}
		}
	}
}
