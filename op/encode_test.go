package op

import (
	"bytes"
	"encoding/hex"
	"math"
	"slices"
	"strings"
	"testing"

	"arbour/api"
)

func mustEncode(t *testing.T, l []api.Op, want string) {
	t.Helper()
	if got, why := Encode(l); string(got) != want || why != api.OK {
		t.Errorf("Encode(%#v): %x, %v, want %x", l, got, why, want)
	}
}

// mustHex takes the bytes with blanks between the fields.
func mustHex(t *testing.T, o api.Op, want string) {
	t.Helper()
	b, err := hex.DecodeString(strings.ReplaceAll(want, " ", ""))
	if err != nil {
		t.Fatal(err)
	}
	mustEncode(t, []api.Op{o}, string(b))
	mustDecode(t, string(b), []api.Op{o})
}

func mustRefuse(t *testing.T, said string, l ...api.Op) {
	t.Helper()
	if got, why := Encode(l); len(got) != 0 || why != api.ErrForm {
		t.Errorf("Encode of %s: %d bytes, %v", said, len(got), why)
	}
}

func TestEncodeOfNothing(t *testing.T) {
	mustEncode(t, nil, "")
	mustEncode(t, []api.Op{}, "")
	mustEncode(t, make([]api.Op, 0, 3), "")
	mustEncode(t, []api.Op{{}}[:0], "")
}

// P16.2: the bytes, field by field.
func TestEncodeOfEachKind(t *testing.T) {
	const none = "000000"
	mustHex(t, api.Op{Kind: api.Make, Node: 1, Type: api.DoctypeNode, Name: "html"}, "01 00000001 00000000 00000000 02 00 00000468746d6c 0000 "+none)
	mustHex(t, api.Op{Kind: api.Make, Node: 0x01020304, Type: api.Element, NS: api.SVG, Name: "g", Attrs: []api.Attr{{Name: "a", Value: "bc"}, {Name: "", Value: "d"}, {Name: "e"}}, Text: "xy"}, "01 01020304 00000000 00000000 03 02 00000167 0003 00000161 0000026263 000000 00000164 00000165 000000 0000027879")
	mustHex(t, api.Op{Kind: api.Make, Type: api.CommentNode, NS: api.HTML, Text: "\xFF\x00"}, "01 00000000 00000000 00000000 05 01 "+none+" 0000 000002ff00")
	mustHex(t, api.Op{Kind: api.Append, Node: 0x7FFFFFFF, Parent: 0x00FF00FF}, "02 7fffffff 00ff00ff 00000000 00 00 "+none+" 0000 "+none)
	mustHex(t, api.Op{Kind: api.Before, Node: 0x00010000, Ref: 0x01000000}, "03 00010000 00000000 01000000 00 00 "+none+" 0000 "+none)
	mustHex(t, api.Op{Kind: api.Foster, Node: 258, Parent: 772, Ref: 1286}, "04 00000102 00000304 00000506 00 00 "+none+" 0000 "+none)
	mustHex(t, api.Op{Kind: api.Write, Parent: 5, Text: "a"}, "05 00000000 00000005 00000000 00 00 "+none+" 0000 00000161")
	mustHex(t, api.Op{Kind: api.Pour, Parent: 5, Ref: 6, Text: "\xE4"}, "06 00000000 00000005 00000006 00 00 "+none+" 0000 000001e4")
	mustHex(t, api.Op{Kind: api.Detach, Node: 9}, "07 00000009 00000000 00000000 00 00 "+none+" 0000 "+none)
	mustHex(t, api.Op{Kind: api.Move, Parent: 1, Ref: 2}, "08 00000000 00000001 00000002 00 00 "+none+" 0000 "+none)
	mustHex(t, api.Op{Kind: api.Inner, Node: 1, Ref: 2}, "09 00000001 00000000 00000002 00 00 "+none+" 0000 "+none)
	mustHex(t, api.Op{Kind: api.More, Node: 1, Attrs: []api.Attr{{Name: "a"}}}, "0a 00000001 00000000 00000000 00 00 "+none+" 0001 00000161 000000 "+none)
	mustHex(t, api.Op{Kind: api.More, Attrs: []api.Attr{}}, "0a 00000000 00000000 00000000 00 00 "+none+" 0000 "+none)
	mustHex(t, api.Op{Kind: api.Quirks}, "0b 00000000 00000000 00000000 00 00 "+none+" 0000 "+none)
}

// TestEncodeOfSeveral: they stand one behind the other, with nothing between.
func TestEncodeOfSeveral(t *testing.T) {
	all := samples()
	want := ""
	for i, o := range all {
		mustEncode(t, []api.Op{o}, opBytes(o))
		mustEncode(t, []api.Op{o, o, o}, strings.Repeat(opBytes(o), 3))
		want += opBytes(o)
		mustEncode(t, all[:i+1], want)
	}
	slices.Reverse(all)
	reversed := ""
	for _, o := range all {
		reversed += opBytes(o)
	}
	mustEncode(t, all, reversed)
}

// P16.2: lengths whose bytes are all of use.
func TestEncodeLengths(t *testing.T) {
	for _, n := range []int{0, 1, 255, 256, 257, 65535, 65536, 65537, 0x010203} {
		s := strings.Repeat("x", n)
		length := string([]byte{byte(n >> 16), byte(n >> 8), byte(n)})
		head := "\x01" + strings.Repeat("\x00", 12) + "\x03\x01"
		mustEncode(t, []api.Op{{Kind: api.Make, Type: api.Element, NS: 1, Name: s}}, head+length+s+"\x00\x00"+"\x00\x00\x00")
		mustEncode(t, []api.Op{{Kind: api.Make, Type: api.Element, NS: 1, Text: s}}, head+"\x00\x00\x00"+"\x00\x00"+length+s)
		mustEncode(t, []api.Op{{Kind: api.Make, Type: api.Element, NS: 1, Attrs: []api.Attr{{Name: s}}}}, head+"\x00\x00\x00"+"\x00\x01"+length+s+"\x00\x00\x00"+"\x00\x00\x00")
		mustEncode(t, []api.Op{{Kind: api.Make, Type: api.Element, NS: 1, Attrs: []api.Attr{{Value: s}}}}, head+"\x00\x00\x00"+"\x00\x01"+"\x00\x00\x00"+length+s+"\x00\x00\x00")
	}
}

// wrongs are operations that are not Right, by one thing each.
func wrongs() []api.Op {
	return []api.Op{
		{},
		{Kind: -1},
		{Kind: 12},
		{Kind: 256 + api.Quirks},
		{Kind: api.Make},
		{Kind: api.Make, Type: api.Document},
		{Kind: api.Make, Type: api.TextNode},
		{Kind: api.Make, Type: api.Content},
		{Kind: api.Make, Type: 256 + api.Element},
		{Kind: api.Make, Type: api.Element, NS: 3},
		{Kind: api.Make, Type: api.Element, NS: -1},
		{Kind: api.Make, Type: api.Element, NS: 256},
		{Kind: api.Make, Type: api.Element, Parent: 1},
		{Kind: api.Detach, Node: -1},
		{Kind: api.Detach, Node: 1 << 31},
		{Kind: api.Detach, Node: 1 << 32},
		{Kind: api.Detach, Node: math.MaxInt},
		{Kind: api.Detach, Ref: 1},
		{Kind: api.Append, Text: "a"},
		{Kind: api.Write, Name: "a"},
		{Kind: api.Inner, Attrs: []api.Attr{{}}},
		{Kind: api.More, NS: 1},
		{Kind: api.Quirks, Type: api.Element},
	}
}

func TestEncodeOfWhatIsNotRight(t *testing.T) {
	p, q := only(full(api.Make)), api.Op{Kind: api.Quirks}
	for _, o := range wrongs() {
		mustRight(t, o, false)
		said := Text(o)
		mustRefuse(t, said+" alone", o)
		mustRefuse(t, said+" first", o, p, q)
		mustRefuse(t, said+" in the middle", p, o, q)
		mustRefuse(t, said+" last", p, q, o)
		mustRefuse(t, said+" twice", o, p, o)
		// One that stands behind the end of the list is not asked.
		l := []api.Op{p, o}
		mustEncode(t, l[:1], opBytes(p))
	}
	for kind := api.Make; kind <= api.Quirks; kind++ {
		mustRefuse(t, "all fields", full(kind))
	}
}

// TestLongestTexts: 2^24 - 1 bytes of each text, and one more.
func TestLongestTexts(t *testing.T) {
	over := strings.Repeat("abcdefgh", 1<<21)
	longest := over[1:]
	makes := []func(s string) api.Op{
		func(s string) api.Op { return api.Op{Kind: api.Make, Type: api.Element, Name: s} },
		func(s string) api.Op { return api.Op{Kind: api.Make, Type: api.CommentNode, Text: s} },
		func(s string) api.Op {
			return api.Op{Kind: api.Make, Type: api.Element, Attrs: []api.Attr{{Name: "a"}, {Name: s}}}
		},
		func(s string) api.Op {
			return api.Op{Kind: api.More, Attrs: []api.Attr{{Name: "a", Value: s}, {Name: "b"}}}
		},
		func(s string) api.Op { return api.Op{Kind: api.More, Attrs: []api.Attr{{Name: s}, {}}} },
		func(s string) api.Op { return api.Op{Kind: api.Write, Text: s} },
		func(s string) api.Op { return api.Op{Kind: api.Pour, Text: s} },
	}
	for i, of := range makes {
		o := of(longest)
		b, why := Encode([]api.Op{o, {Kind: api.Quirks}})
		size := len(opBytes(o))
		if why != api.OK || string(b) != opBytes(o)+opBytes(api.Op{Kind: api.Quirks}) {
			t.Errorf("%d: Encode of 2^24 - 1 bytes: %d bytes, %v", i, len(b), why)
		}
		l, why := Decode(b)
		if why != api.OK || len(l) != 2 || !Same(l[0], o) {
			t.Errorf("%d: Decode of 2^24 - 1 bytes: %d, %v", i, len(l), why)
		}
		if l, why := Decode(b[:size-1]); len(l) != 0 || why != api.ErrForm {
			t.Errorf("%d: Decode of a long one that is cut off: %d, %v", i, len(l), why)
		}
		o = of(over)
		if !Right(o) {
			t.Errorf("%d: Right of 2^24 bytes: false", i)
		}
		mustRefuse(t, "2^24 bytes", o)
		mustRefuse(t, "2^24 bytes, last", api.Op{Kind: api.Quirks}, o)
		mustRefuse(t, "2^24 bytes, first", o, api.Op{Kind: api.Quirks})
	}
	all := api.Op{Kind: api.Make, Type: api.Element, Name: longest, Attrs: []api.Attr{{Name: longest, Value: longest}}, Text: longest}
	b, why := Encode([]api.Op{all})
	if l, no := Decode(b); why != api.OK || no != api.OK || len(l) != 1 || !Same(l[0], all) {
		t.Errorf("all texts of 2^24 - 1 bytes: %v, %v", why, no)
	}
}

// TestMostAttrs: 65535 of them, and one more.
func TestMostAttrs(t *testing.T) {
	over := make([]api.Attr, 65536)
	for i := range over {
		over[i] = api.Attr{Name: strings.Repeat("n", i%3), Value: strings.Repeat("v", i%5)}
	}
	for _, o := range []api.Op{{Kind: api.More}, {Kind: api.Make, Type: api.Element}} {
		o.Attrs = over[:65535]
		b, why := Encode([]api.Op{o})
		if why != api.OK || !bytes.HasPrefix(b[18:], []byte("\xFF\xFF")) {
			t.Errorf("Encode of 65535 attributes: %d bytes, %v", len(b), why)
		}
		l, why := Decode(b)
		if why != api.OK || len(l) != 1 || !Same(l[0], o) {
			t.Errorf("Decode of 65535 attributes: %d, %v", len(l), why)
		}
		if l, why := Decode(b[:len(b)-1]); len(l) != 0 || why != api.ErrForm {
			t.Errorf("Decode of 65535 attributes, cut off: %d, %v", len(l), why)
		}
		o.Attrs = over
		if !Right(o) {
			t.Error("Right of 65536 attributes: false")
		}
		mustRefuse(t, "65536 attributes", o)
		mustRefuse(t, "65536 attributes, last", api.Op{Kind: api.Quirks}, o)
		// As two bytes their number would be 0, and 1.
		o.Attrs = append(over, api.Attr{})
		mustRefuse(t, "65537 attributes", o)
	}
}

func TestEncodeAgainstTheWords(t *testing.T) {
	d := dice(4)
	refused := 0
	for range 50000 {
		var l []api.Op
		for range d.roll(5) {
			l = append(l, d.right())
		}
		if d.roll(4) == 0 {
			l = append(l, d.near())
		}
		want, why := encodeByWords(l)
		if got, no := Encode(l); string(got) != want || no != why {
			t.Fatalf("Encode(%#v): %x, %v, want %x, %v", l, got, no, want, why)
		}
		if why != api.OK {
			refused++
		}
	}
	if refused < 1000 {
		t.Errorf("just %d were refused", refused)
	}
}
