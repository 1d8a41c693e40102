package op

import (
	"strings"
	"testing"

	"arbour/api"
)

// TestManyOperations, small ones and such with texts.
func TestManyOperations(t *testing.T) {
	const many = 500000
	d := dice(7)
	l := make([]api.Op, many)
	size := 0
	for i := range l {
		l[i] = d.right()
		size += len(opBytes(l[i]))
	}
	b, why := Encode(l)
	if why != api.OK || len(b) != size {
		t.Fatalf("Encode: %d bytes, %v, want %d", len(b), why, size)
	}
	back, why := Decode(b)
	if why != api.OK || len(back) != many {
		t.Fatalf("Decode: %d, %v", len(back), why)
	}
	for i, o := range back {
		if !Same(o, l[i]) {
			t.Fatalf("the %d-th is %#v, want %#v", i, o, l[i])
		}
	}
	if again, why := Encode(back); why != api.OK || string(again) != string(b) {
		t.Errorf("Encode again: %d bytes, %v", len(again), why)
	}
	// The last one alone is wrong.
	mustRefuse(t, "many, the last one wrong", append(l, api.Op{})...)
	if l, why := Decode(append(b, 0)); len(l) != 0 || why != api.ErrForm {
		t.Errorf("Decode of many with a byte more: %d, %v", len(l), why)
	}
	if l, why := Decode(b[:len(b)-1]); len(l) != 0 || why != api.ErrForm {
		t.Errorf("Decode of many with a byte less: %d, %v", len(l), why)
	}
}

// TestLongOperations, many of them, so that none may take time for what stands ahead of it.
func TestLongOperations(t *testing.T) {
	long := strings.Repeat("0123456789abcdef", 1<<10)
	var l []api.Op
	for i := range 4000 {
		l = append(l, api.Op{Kind: api.Write, Parent: i, Text: long[i:]})
	}
	attrs := make([]api.Attr, 60000)
	for i := range attrs {
		attrs[i] = api.Attr{Name: long[:i%50], Value: long[:i%70]}
	}
	for i := range 10 {
		l = append(l, api.Op{Kind: api.More, Node: i, Attrs: attrs[:60000-i]})
	}
	b, why := Encode(l)
	if why != api.OK {
		t.Fatalf("Encode: %v", why)
	}
	back, why := Decode(b)
	if why != api.OK || len(back) != len(l) {
		t.Fatalf("Decode: %d, %v", len(back), why)
	}
	for i := range l {
		if !Same(back[i], l[i]) || Text(back[i]) != Text(l[i]) {
			t.Fatalf("the %d-th is another one", i)
		}
	}
}

// TestGreatLists: neither call asks the attributes against each other.
func TestGreatLists(t *testing.T) {
	l := make([]api.Attr, 2000000)
	m := make([]api.Attr, len(l))
	m[len(m)-1].Value = "x"
	a, b := api.Op{Kind: api.More, Attrs: l}, api.Op{Kind: api.More, Attrs: m}
	if !Right(a) || !Right(b) || !Same(a, a) || Same(a, b) {
		t.Error("Right, Same of great lists")
	}
	if want := `10 0 0 0 0 0 ` + strings.Repeat(" =", len(l)) + ` ""`; Text(a) != want {
		t.Error("Text of a great list")
	}
	mustRefuse(t, "a great list", a)
}
