package op

import "arbour/api"

// How many bytes each field takes; a text and a list of attributes have their length ahead of them.
const (
	smallSize = 1
	nodeSize  = 4
	textSize  = 3
	attrsSize = 2
	mostText  = 1<<(8*textSize) - 1
	mostAttrs = 1<<(8*attrsSize) - 1
)

// Encode tells l as bytes; ErrForm, unless all of it is Right and fits.
func Encode(l []api.Op) ([]byte, api.Errno) {
	// All is asked ahead of the first byte, so that nothing is written for what is refused.
	for _, o := range l {
		if !Right(o) || !fits(o) {
			return nil, api.ErrForm
		}
	}
	var b []byte
	for _, o := range l {
		b = putOp(b, o)
	}
	return b, api.OK
}

// fits tells whether the lengths within o can be written.
func fits(o api.Op) bool {
	if len(o.Name) > mostText || len(o.Text) > mostText || len(o.Attrs) > mostAttrs {
		return false
	}
	for _, a := range o.Attrs {
		if len(a.Name) > mostText || len(a.Value) > mostText {
			return false
		}
	}
	return true
}

func putOp(b []byte, o api.Op) []byte {
	b = putNumber(b, o.Kind, smallSize)
	b = putNumber(b, o.Node, nodeSize)
	b = putNumber(b, o.Parent, nodeSize)
	b = putNumber(b, o.Ref, nodeSize)
	b = putNumber(b, o.Type, smallSize)
	b = putNumber(b, o.NS, smallSize)
	b = putText(b, o.Name)
	b = putNumber(b, len(o.Attrs), attrsSize)
	for _, a := range o.Attrs {
		b = putText(b, a.Name)
		b = putText(b, a.Value)
	}
	return putText(b, o.Text)
}

// putNumber puts n behind b as so many bytes, the highest one first.
func putNumber(b []byte, n, size int) []byte {
	for left := size - 1; left >= 0; left-- {
		b = append(b, byte(n>>(8*left)))
	}
	return b
}

func putText(b []byte, s string) []byte {
	return append(putNumber(b, len(s), textSize), s...)
}
