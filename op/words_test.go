package op

import (
	"encoding/binary"
	"fmt"
	"strings"

	"arbour/api"
)

// The promise's words, one after the other.

// fieldsOf are the fields that each Kind names.
var fieldsOf = map[int]string{
	api.Make:   "Node Type NS Name Attrs Text",
	api.Append: "Node Parent",
	api.Before: "Node Ref",
	api.Foster: "Node Ref Parent",
	api.Write:  "Parent Text",
	api.Pour:   "Ref Parent Text",
	api.Detach: "Node",
	api.Move:   "Ref Parent",
	api.Inner:  "Node Ref",
	api.More:   "Node Attrs",
	api.Quirks: "",
}

var allFields = []string{"Node", "Parent", "Ref", "Type", "NS", "Name", "Attrs", "Text"}

func names(kind int, field string) bool {
	for _, f := range strings.Fields(fieldsOf[kind]) {
		if f == field {
			return true
		}
	}
	return false
}

func isSet(o api.Op, field string) bool {
	switch field {
	case "Node":
		return o.Node != 0
	case "Parent":
		return o.Parent != 0
	case "Ref":
		return o.Ref != 0
	case "Type":
		return o.Type != 0
	case "NS":
		return o.NS != 0
	case "Name":
		return o.Name != ""
	case "Attrs":
		return len(o.Attrs) > 0
	}
	return o.Text != ""
}

func rightByWords(o api.Op) bool {
	if _, known := fieldsOf[o.Kind]; !known {
		return false
	}
	for _, n := range []int{o.Node, o.Parent, o.Ref} {
		if n < 0 || n > 2147483647 {
			return false
		}
	}
	for _, f := range allFields {
		if isSet(o, f) && !names(o.Kind, f) {
			return false
		}
	}
	if o.Kind == api.Make && o.Type != 2 && o.Type != 3 && o.Type != 5 {
		return false
	}
	return o.NS == 0 || o.NS == 1 || o.NS == 2
}

func sameByWords(a, b api.Op) bool {
	if len(a.Attrs) != len(b.Attrs) {
		return false
	}
	for i := range a.Attrs {
		if a.Attrs[i].Name != b.Attrs[i].Name || a.Attrs[i].Value != b.Attrs[i].Value {
			return false
		}
	}
	return a.Kind == b.Kind && a.Node == b.Node && a.Parent == b.Parent && a.Ref == b.Ref && a.Type == b.Type && a.NS == b.NS && a.Name == b.Name && a.Text == b.Text
}

func textBytes(s string) string {
	return string(binary.BigEndian.AppendUint32(nil, uint32(len(s)))[1:]) + s
}

func opBytes(o api.Op) string {
	var b []byte
	b = append(b, byte(o.Kind))
	for _, n := range []int{o.Node, o.Parent, o.Ref} {
		b = binary.BigEndian.AppendUint32(b, uint32(n))
	}
	b = append(b, byte(o.Type), byte(o.NS))
	s := string(b) + textBytes(o.Name) + string(binary.BigEndian.AppendUint16(nil, uint16(len(o.Attrs))))
	for _, a := range o.Attrs {
		s += textBytes(a.Name) + textBytes(a.Value)
	}
	return s + textBytes(o.Text)
}

// encodeByWords asks for the form, and not for the lengths, which small operations do not reach.
func encodeByWords(l []api.Op) (string, api.Errno) {
	s := ""
	for _, o := range l {
		if !rightByWords(o) {
			return "", api.ErrForm
		}
		s += opBytes(o)
	}
	return s, api.OK
}

// decodeByWords takes an operation off the front as long as there is one: what is not as long as it says ends in a panic of Go's.
func decodeByWords(s string) (l []api.Op, why api.Errno) {
	defer func() {
		if recover() != nil {
			l, why = nil, api.ErrForm
		}
	}()
	cut := func(n int) string {
		front := s[:n]
		s = s[n:]
		return front
	}
	number := func(n int) int {
		return int(binary.BigEndian.Uint32([]byte(strings.Repeat("\x00", 4-n) + cut(n))))
	}
	text := func() string { return cut(number(3)) }
	for s != "" {
		o := api.Op{Kind: number(1), Node: number(4), Parent: number(4), Ref: number(4), Type: number(1), NS: number(1), Name: text()}
		for range number(2) {
			o.Attrs = append(o.Attrs, api.Attr{Name: text(), Value: text()})
		}
		o.Text = text()
		if !rightByWords(o) {
			return nil, api.ErrForm
		}
		l = append(l, o)
	}
	return l, api.OK
}

func textByWords(o api.Op) string {
	s := fmt.Sprintf("%d %d %d %d %d %d %s", o.Kind, o.Node, o.Parent, o.Ref, o.Type, o.NS, o.Name)
	for _, a := range o.Attrs {
		s += fmt.Sprintf(" %s=%s", a.Name, a.Value)
	}
	return s + " \"" + o.Text + "\""
}

// dice gives numbers that look like any, the same ones each time.
type dice uint64

func (d *dice) roll(n int) int {
	*d = *d*6364136223846793005 + 1442695040888963407
	return int(uint64(*d) >> 33 % uint64(n))
}

func (d *dice) word() string {
	words := []string{"", "", "a", "b", " ", "=", "\"", "p", "ab", "\x00", "\xFF\xC0", "\u00e4", "a=b \"c\"", "division"}
	return words[d.roll(len(words))]
}

func (d *dice) number() int {
	numbers := []int{0, 0, 0, 1, 2, 255, 256, 65536, 1<<24 + 1, 1<<31 - 1, 1 << 31, -1}
	return numbers[d.roll(len(numbers))]
}

func (d *dice) attrs() []api.Attr {
	var l []api.Attr
	for range d.roll(4) {
		l = append(l, api.Attr{Name: d.word(), Value: d.word()})
	}
	return l
}

// any draws an operation whose fields are set at will.
func (d *dice) any() api.Op {
	return api.Op{Kind: d.roll(13), Node: d.number(), Parent: d.number(), Ref: d.number(), Type: d.roll(7), NS: d.roll(4), Name: d.word(), Attrs: d.attrs(), Text: d.word()}
}

// near draws one whose fields are those of its Kind; it is Right more often than not.
func (d *dice) near() api.Op {
	o := only(d.any())
	if o.Kind == api.Make && d.roll(8) > 0 {
		o.Type = []int{api.DoctypeNode, api.Element, api.CommentNode}[d.roll(3)]
	}
	return o
}

// right draws one that is Right.
func (d *dice) right() api.Op {
	for {
		if o := d.near(); rightByWords(o) {
			return o
		}
	}
}

// only takes away what the Kind does not name.
func only(o api.Op) api.Op {
	for _, f := range allFields {
		if !names(o.Kind, f) {
			unset(&o, f)
		}
	}
	return o
}

func unset(o *api.Op, field string) {
	switch field {
	case "Node":
		o.Node = 0
	case "Parent":
		o.Parent = 0
	case "Ref":
		o.Ref = 0
	case "Type":
		o.Type = 0
	case "NS":
		o.NS = 0
	case "Name":
		o.Name = ""
	case "Attrs":
		o.Attrs = nil
	case "Text":
		o.Text = ""
	}
}

// full is an operation of that Kind with every field that there is.
func full(kind int) api.Op {
	return api.Op{Kind: kind, Node: 1, Parent: 2, Ref: 3, Type: api.Element, NS: api.HTML, Name: "p", Attrs: []api.Attr{{Name: "a", Value: "1"}, {Name: "b", Value: "23"}}, Text: "t"}
}

// samples is an operation of each Kind with all that it names, and one with nothing.
func samples() []api.Op {
	var l []api.Op
	for kind := api.Make; kind <= api.Quirks; kind++ {
		bare := api.Op{Kind: kind}
		if kind == api.Make {
			bare.Type = api.CommentNode
		}
		l = append(l, only(full(kind)), bare)
	}
	return l
}
