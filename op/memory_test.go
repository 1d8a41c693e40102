package op

import (
	"bytes"
	"runtime"
	"slices"
	"testing"
	"unsafe"

	"arbour/api"
)

// stretch is a piece of memory, from its first byte to behind its last one.
type stretch struct{ from, to uintptr }

func stretchOf[T any](l []T) stretch {
	from := uintptr(unsafe.Pointer(unsafe.SliceData(l)))
	var one T
	return stretch{from, from + uintptr(cap(l))*unsafe.Sizeof(one)}
}

func wordOf(s string) stretch {
	from := uintptr(unsafe.Pointer(unsafe.StringData(s)))
	return stretch{from, from + uintptr(len(s))}
}

// memoryOf are the stretches of all lists of l, spare room too, and of all its texts.
func memoryOf(l []api.Op) []stretch {
	all := []stretch{stretchOf(l)}
	for _, o := range l {
		all = append(all, stretchOf(o.Attrs), wordOf(o.Name), wordOf(o.Text))
		for _, a := range o.Attrs {
			all = append(all, wordOf(a.Name), wordOf(a.Value))
		}
	}
	return all
}

func mustBeApart(t *testing.T, l []stretch) {
	t.Helper()
	l = slices.DeleteFunc(l, func(s stretch) bool { return s.from >= s.to })
	for i, a := range l {
		for j, b := range l[:i] {
			if a.from < b.to && b.from < a.to {
				t.Errorf("stretches %d and %d share memory", i, j)
			}
		}
	}
}

// rich are operations whose texts and lists lie in memory of their own. Texts of one byte are left out: Go keeps those once for all.
func rich() []api.Op {
	words := func(s string) string { return string(append([]byte(nil), s...)) }
	pair := func(s string) []api.Attr {
		return []api.Attr{{Name: words("first" + s), Value: words("one" + s)}, {Name: words("second" + s), Value: words("two" + s)}}
	}
	return []api.Op{
		{Kind: api.Make, Node: 1, Type: api.Element, NS: api.HTML, Name: words("division"), Attrs: pair("a"), Text: words("some text")},
		{Kind: api.Append, Node: 1},
		{Kind: api.More, Node: 1, Attrs: pair("b")},
		{Kind: api.Write, Parent: 1, Text: words("more text")},
	}
}

// TestAnswersAreNewMemory holds what was handed in and several answers against each other. All of them are alive until it has asked: what is freed may be given out again.
func TestAnswersAreNewMemory(t *testing.T) {
	l := rich()
	b, _ := Encode(l)
	c, _ := Encode(l)
	m, _ := Decode(b)
	n, _ := Decode(b)
	x, y := Text(l[0]), Text(l[0])
	all := []stretch{stretchOf(b), stretchOf(c), wordOf(x), wordOf(y)}
	for _, one := range [][]api.Op{l, m, n} {
		all = append(all, memoryOf(one)...)
	}
	mustBeApart(t, all)
	runtime.KeepAlive([]any{l, b, c, m, n, x, y})
}

// turn turns all of l, spare room too.
func turn(l []api.Op) {
	for _, o := range l[:cap(l)] {
		for i := range o.Attrs[:cap(o.Attrs)] {
			o.Attrs[:cap(o.Attrs)][i] = api.Attr{Name: "turned", Value: "turned"}
		}
	}
	for i := range l[:cap(l)] {
		l[:cap(l)][i] = api.Op{Kind: 99, Name: "turned", Text: "turned"}
	}
}

func turnBytes(b []byte) {
	for i := range b[:cap(b)] {
		b[:cap(b)][i] = 'T'
	}
}

func mustBeRich(t *testing.T, said string, l []api.Op) {
	t.Helper()
	if !slices.EqualFunc(l, rich(), sameByWords) {
		t.Errorf("%s: %#v", said, l)
	}
}

func TestWhatIsTurnedIsNotSeen(t *testing.T) {
	want, _ := encodeByWords(rich())
	l := rich()
	b, _ := Encode(l)
	turnBytes(b)
	mustBeRich(t, "bytes were turned", l)
	b, _ = Encode(l)
	turn(l)
	if string(b) != want {
		t.Errorf("the operations were turned: %x", b)
	}
	m, _ := Decode(b)
	n, _ := Decode(b)
	turn(m)
	if string(b) != want {
		t.Errorf("what Decode told was turned: %x", b)
	}
	mustBeRich(t, "another answer was turned", n)
	turnBytes(b)
	mustBeRich(t, "the bytes of Decode were turned", n)
	text := Text(n[0])
	turn(n)
	if text != textByWords(rich()[0]) {
		t.Errorf("the operation of Text was turned: %q", text)
	}
}

// TestSpareRoomOfAttrsIsApart: to put one behind a list of an answer is not seen in another list.
func TestSpareRoomOfAttrsIsApart(t *testing.T) {
	b, _ := Encode(rich())
	l, _ := Decode(b)
	_ = append(l[0].Attrs, api.Attr{Name: "turned"}, api.Attr{Name: "turned"}, api.Attr{Name: "turned"})
	mustBeRich(t, "one more attribute", l)
}

// TestWhatIsHandedInStays, its spare room too, whether it is refused or not.
func TestWhatIsHandedInStays(t *testing.T) {
	spare := api.Op{Kind: api.Quirks, Name: "spare"}
	room := append(rich(), api.Op{}, spare)
	room[0].Attrs = append(room[0].Attrs, api.Attr{Name: "spare"})[:2]
	for size := range len(room) + 1 {
		l := room[:size]
		Encode(l)
		for _, o := range l {
			Right(o)
			Same(o, spare)
			Text(o)
		}
		mustBeRich(t, "what was handed in", room[:4])
		if !Same(room[4], api.Op{}) || !Same(room[5], spare) || room[0].Attrs[:3][2].Name != "spare" {
			t.Fatal("the room behind what was handed in has changed")
		}
	}
	b, _ := Encode(rich())
	b = append(b, "spare room"...)
	was := bytes.Clone(b)
	for n := range b {
		Decode(b[:n])
		if !bytes.Equal(b, was) {
			t.Fatalf("Decode has changed what was handed in, or its room: %x", b)
		}
	}
}

// TestCallsHangOnWhatIsGivenAlone: what was asked before is not seen.
func TestCallsHangOnWhatIsGivenAlone(t *testing.T) {
	first, _ := Encode(rich())
	Encode([]api.Op{{}})
	Decode(first[:5])
	Decode([]byte("\xFF"))
	second, why := Encode(rich())
	if why != api.OK || !bytes.Equal(first, second) {
		t.Errorf("Encode behind a refusal: %x, %v", second, why)
	}
	l, why := Decode(second)
	if why != api.OK {
		t.Errorf("Decode behind a refusal: %v", why)
	}
	mustBeRich(t, "Decode behind a refusal", l)
}
