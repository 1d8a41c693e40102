package op

import "arbour/api"

// Decode tells what Encode wrote as b; ErrForm of other bytes.
func Decode(b []byte) ([]api.Op, api.Errno) {
	var l []api.Op
	r := reader{left: b}
	for len(r.left) > 0 {
		o := r.op()
		// Encode writes every field, so what is cut off or not Right it never wrote.
		if r.cut || !Right(o) {
			return nil, api.ErrForm
		}
		l = append(l, o)
	}
	return l, api.OK
}

// reader reads fields one behind the other. Once one is cut off, all behind it are empty.
type reader struct {
	left []byte
	cut  bool
}

func (r *reader) op() api.Op {
	var o api.Op
	o.Kind = r.number(smallSize)
	o.Node = r.number(nodeSize)
	o.Parent = r.number(nodeSize)
	o.Ref = r.number(nodeSize)
	o.Type = r.number(smallSize)
	o.NS = r.number(smallSize)
	o.Name = r.text()
	o.Attrs = r.attrs()
	o.Text = r.text()
	return o
}

func (r *reader) attrs() []api.Attr {
	var l []api.Attr
	for count := r.number(attrsSize); count > 0 && !r.cut; count-- {
		var a api.Attr
		a.Name = r.text()
		a.Value = r.text()
		l = append(l, a)
	}
	return l
}

// text copies its bytes: what is done to them later is not seen in it.
func (r *reader) text() string { return string(r.take(r.number(textSize))) }

// number reads the highest byte first.
func (r *reader) number(size int) int {
	n := 0
	for _, c := range r.take(size) {
		n = n<<8 | int(c)
	}
	return n
}

// take tells the next bytes, so many; none, if there are fewer.
func (r *reader) take(size int) []byte {
	if size > len(r.left) {
		r.left, r.cut = nil, true
		return nil
	}
	taken := r.left[:size]
	r.left = r.left[size:]
	return taken
}
