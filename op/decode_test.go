package op

import (
	"slices"
	"strings"
	"testing"

	"arbour/api"
)

func mustDecode(t *testing.T, b string, want []api.Op) {
	t.Helper()
	if got, why := Decode([]byte(b)); why != api.OK || !slices.EqualFunc(got, want, sameByWords) {
		t.Errorf("Decode(%x): %#v, %v, want %#v", b, got, why, want)
	}
}

func mustNotDecode(t *testing.T, said, b string) {
	t.Helper()
	if got, why := Decode([]byte(b)); len(got) != 0 || why != api.ErrForm {
		t.Errorf("Decode of %s, %x: %#v, %v", said, b, got, why)
	}
}

// mustDecodeAsWords asks the words what b is; what is told, written again, must be b.
func mustDecodeAsWords(t *testing.T, b string) {
	t.Helper()
	want, why := decodeByWords(b)
	got, no := Decode([]byte(b))
	if no != why || !slices.EqualFunc(got, want, sameByWords) {
		t.Fatalf("Decode(%x): %#v, %v, want %#v, %v", b, got, no, want, why)
	}
	if why != api.OK {
		return
	}
	if again, no := Encode(got); no != api.OK || string(again) != b {
		t.Fatalf("Decode(%x), written again: %x, %v", b, again, no)
	}
}

func TestDecodeOfNothing(t *testing.T) {
	mustDecode(t, "", nil)
	for _, b := range [][]byte{nil, {}, make([]byte, 0, 5), []byte(opBytes(api.Op{Kind: api.Quirks}))[:0]} {
		if l, why := Decode(b); len(l) != 0 || why != api.OK {
			t.Errorf("Decode of nothing: %v, %v", l, why)
		}
	}
}

func TestDecodeTellsWhatWasEncoded(t *testing.T) {
	all := samples()
	whole := ""
	for i, o := range all {
		mustDecode(t, opBytes(o), []api.Op{o})
		mustDecode(t, opBytes(o)+opBytes(o), []api.Op{o, o})
		whole += opBytes(o)
		mustDecode(t, whole, all[:i+1])
	}
	odd := api.Op{Kind: api.Make, Type: api.Element, Name: "\xFF\x00", Attrs: []api.Attr{{Name: "\xC0", Value: "\xED\xA0\x80"}, {Name: "\xC0", Value: "\n"}, {}}, Text: "\x80\xF4\x90"}
	mustDecode(t, opBytes(odd), []api.Op{odd})
}

// TestDecodeOfWhatIsCutOff: at the end of an operation it is a shorter list, elsewhere none.
func TestDecodeOfWhatIsCutOff(t *testing.T) {
	all := samples()
	ends := map[int]int{0: 0}
	whole := ""
	for i, o := range all {
		whole += opBytes(o)
		ends[len(whole)] = i + 1
	}
	for n := range len(whole) + 1 {
		if count, there := ends[n]; there {
			mustDecode(t, whole[:n], all[:count])
		} else {
			mustNotDecode(t, "what is cut off", whole[:n])
		}
	}
	for _, o := range all {
		b := opBytes(o)
		for n := 1; n < len(b); n++ {
			mustNotDecode(t, "what is cut off", b[:n])
			mustNotDecode(t, "what lacks its beginning", b[n:])
		}
	}
}

// TestDecodeReadsNoSpareRoom: behind the end there may be what is missing.
func TestDecodeReadsNoSpareRoom(t *testing.T) {
	for _, o := range samples() {
		b := []byte(opBytes(o))
		for n := 1; n < len(b); n++ {
			if l, why := Decode(b[:n]); len(l) != 0 || why != api.ErrForm {
				t.Fatalf("Decode of %x with room behind it: %v, %v", b[:n], l, why)
			}
		}
	}
}

func TestDecodeWithAByteMore(t *testing.T) {
	for _, o := range samples() {
		for c := range 256 {
			more := string([]byte{byte(c)})
			mustNotDecode(t, "a byte more behind", opBytes(o)+more)
			mustDecodeAsWords(t, more+opBytes(o))
		}
	}
}

// TestDecodeWithEachByteTurned turns each byte to each other one.
func TestDecodeWithEachByteTurned(t *testing.T) {
	behind := opBytes(api.Op{Kind: api.Append, Node: 1}) + opBytes(api.Op{Kind: api.Write, Text: "abc"})
	for _, o := range samples() {
		for _, whole := range []string{opBytes(o), opBytes(o) + behind} {
			b := []byte(whole)
			for i := range b {
				for c := range 256 {
					b[i] = byte(c)
					mustDecodeAsWords(t, string(b))
				}
				b[i] = whole[i]
			}
		}
	}
}

// TestDecodeWithABytePutInOrLeftOut at each place.
func TestDecodeWithABytePutInOrLeftOut(t *testing.T) {
	whole := ""
	for _, o := range samples() {
		whole += opBytes(o)
	}
	for i := range whole {
		mustDecodeAsWords(t, whole[:i]+whole[i+1:])
		for _, c := range []string{"\x00", "\x01", "\x0b", "a", "\xFF"} {
			mustDecodeAsWords(t, whole[:i]+c+whole[i:])
		}
	}
}

// TestDecodeOfWhatIsNotRight: in the form of Encode, but not Right. (What does not fit into its bytes can't be written at all.)
func TestDecodeOfWhatIsNotRight(t *testing.T) {
	p := opBytes(only(full(api.Make)))
	written := func(o api.Op) bool { return o.Kind>>8 == 0 && o.Type>>8 == 0 && o.NS>>8 == 0 && o.Node>>32 == 0 }
	for _, o := range wrongs() {
		if !written(o) {
			continue
		}
		b := opBytes(o)
		mustNotDecode(t, "a wrong one", b)
		mustNotDecode(t, "a wrong one first", b+p)
		mustNotDecode(t, "a wrong one in the middle", p+b+p)
		mustNotDecode(t, "a wrong one last", p+b)
	}
	for kind := range 256 {
		mustNotDecode(t, "all fields", opBytes(full(kind)))
		if kind == 0 || kind > api.Quirks {
			mustNotDecode(t, "a Kind that is none", opBytes(api.Op{Kind: kind}))
		}
	}
	for kind := range 256 {
		if kind != api.DoctypeNode && kind != api.Element && kind != api.CommentNode {
			mustNotDecode(t, "a Type that is none", opBytes(api.Op{Kind: api.Make, Type: kind}))
		}
		if kind > api.SVG {
			mustNotDecode(t, "an NS that is none", opBytes(api.Op{Kind: api.Make, Type: api.Element, NS: kind}))
		}
	}
}

// TestDecodeOfNumbersAboveTheBound in each of the three places.
func TestDecodeOfNumbersAboveTheBound(t *testing.T) {
	for _, n := range []int{1 << 31, 1<<31 + 1, 3 << 30, 1<<32 - 1} {
		mustNotDecode(t, "a Node", opBytes(api.Op{Kind: api.Foster, Node: n}))
		mustNotDecode(t, "a Parent", opBytes(api.Op{Kind: api.Foster, Parent: n}))
		mustNotDecode(t, "a Ref", opBytes(api.Op{Kind: api.Foster, Ref: n}))
	}
	o := api.Op{Kind: api.Foster, Node: 1<<31 - 1, Parent: 1<<31 - 1, Ref: 1<<31 - 1}
	mustDecode(t, opBytes(o), []api.Op{o})
}

// TestDecodeOfFieldsThatAreNotNamed: each one, with each Kind.
func TestDecodeOfFieldsThatAreNotNamed(t *testing.T) {
	for kind := api.Make; kind <= api.Quirks; kind++ {
		for _, f := range allFields {
			o := full(kind)
			for _, g := range allFields {
				if g != f && !names(kind, g) {
					unset(&o, g)
				}
			}
			if names(kind, f) {
				mustDecode(t, opBytes(o), []api.Op{o})
			} else {
				mustNotDecode(t, f+" beside", opBytes(o))
			}
		}
	}
}

// TestDecodeOfWrongLengths: of each text a length that is longer than what is left, as long as it, and shorter.
func TestDecodeOfWrongLengths(t *testing.T) {
	head := "\x01" + strings.Repeat("\x00", 12) + "\x03\x01"
	const none = "\x00\x00\x00"
	made := func(o api.Op) []api.Op {
		o.Kind, o.Type, o.NS = api.Make, api.Element, api.HTML
		return []api.Op{o}
	}
	mustDecode(t, head+none+"\x00\x00"+"\x00\x00\x02ab", made(api.Op{Text: "ab"}))
	for _, length := range []string{"\x00\x00\x00", "\x00\x00\x01", "\x00\x00\x03", "\x00\x01\x02", "\x01\x00\x02", "\xFF\xFF\xFF", "\x00\x02\x00", "\x02\x00\x00"} {
		mustNotDecode(t, "a wrong length of Text", head+none+"\x00\x00"+length+"ab")
	}
	// A Name as long as all that is left leaves nothing for the others.
	mustNotDecode(t, "a Name that takes all", head+"\x00\x00\x05"+"\x00\x00"+none)
	mustNotDecode(t, "a Name that takes more than all", head+"\x00\x00\x06"+"\x00\x00"+none)
	mustNotDecode(t, "a Name that leaves a byte", head+"\x00\x00\x04"+"\x00\x00"+none)
	mustDecode(t, head+"\x00\x00\x05"+"\x00\x00"+none+"\x00\x00"+none, made(api.Op{Name: "\x00\x00\x00\x00\x00"}))
	// A value that takes the bytes of Text for its own.
	mustDecode(t, head+none+"\x00\x01"+"\x00\x00\x01a"+"\x00\x00\x04b\x00\x00\x00"+none, made(api.Op{Attrs: []api.Attr{{Name: "a", Value: "b\x00\x00\x00"}}}))
	mustNotDecode(t, "a Value that takes all", head+none+"\x00\x01"+"\x00\x00\x01a"+"\x00\x00\x04b"+none)
	mustNotDecode(t, "a Value that takes more than all", head+none+"\x00\x01"+"\x00\x00\x01a"+"\x00\x00\x05b"+none)
	mustNotDecode(t, "an attribute's name that takes all", head+none+"\x00\x01"+"\x00\x00\x07a"+none+none)
	mustNotDecode(t, "an attribute's name that takes more than all", head+none+"\x00\x01"+"\x00\x00\x08a"+none+none)
}

// TestDecodeCountsAttrs: how many are told, and how many are there.
func TestDecodeCountsAttrs(t *testing.T) {
	head := "\x0a" + strings.Repeat("\x00", 12) + "\x00\x00" + "\x00\x00\x00"
	one := "\x00\x00\x01a" + "\x00\x00\x01b"
	empty := "\x00\x00\x00" + "\x00\x00\x00"
	for there := range 6 {
		for told := range 6 {
			b := head + string([]byte{0, byte(told)}) + strings.Repeat(one, there) + "\x00\x00\x00"
			if told == there {
				mustDecode(t, b, []api.Op{{Kind: api.More, Attrs: slices.Repeat([]api.Attr{{Name: "a", Value: "b"}}, there)}})
			} else {
				mustNotDecode(t, "attributes that are not told, or not there", b)
			}
			b = head + string([]byte{0, byte(told)}) + strings.Repeat(empty, there) + "\x00\x00\x00"
			if told == there {
				mustDecode(t, b, []api.Op{{Kind: api.More, Attrs: make([]api.Attr, there)}})
			} else {
				mustNotDecode(t, "empty attributes that are not told, or not there", b)
			}
		}
	}
	for _, told := range []string{"\x01\x00", "\x01\x01", "\xFF\xFF"} {
		mustNotDecode(t, "many attributes", head+told+one+"\x00\x00\x00")
	}
	many := head + "\x01\x01" + strings.Repeat(one, 257) + "\x00\x00\x00"
	mustDecode(t, many, []api.Op{{Kind: api.More, Attrs: slices.Repeat([]api.Attr{{Name: "a", Value: "b"}}, 257)}})
}

func TestDecodeAgainstTheWords(t *testing.T) {
	d := dice(5)
	lets := 0
	for range 100000 {
		b := ""
		for range d.roll(4) {
			b += opBytes(d.right())
		}
		mustDecodeAsWords(t, b)
		turned := []byte(b)
		for range d.roll(3) {
			if len(turned) > 0 {
				turned[d.roll(len(turned))] = byte(d.roll(13))
			}
		}
		if l, _ := Decode(turned); string(turned) != b && len(l) > 0 {
			lets++
		}
		mustDecodeAsWords(t, string(turned))
	}
	if lets < 1000 {
		t.Errorf("just %d of those that were turned were let by", lets)
	}
}

// TestDecodeOfAnyBytes: bytes that were never operations.
func TestDecodeOfAnyBytes(t *testing.T) {
	d := dice(6)
	for range 100000 {
		b := make([]byte, d.roll(80))
		top := []int{2, 12, 256}[d.roll(3)]
		for i := range b {
			b[i] = byte(d.roll(top))
		}
		mustDecodeAsWords(t, string(b))
	}
	for c := range 256 {
		for n := range 70 {
			mustDecodeAsWords(t, strings.Repeat(string([]byte{byte(c)}), n))
		}
	}
}
