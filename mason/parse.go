package mason

import (
	"arbour/api"
	"arbour/arena"
	"arbour/context"
	"arbour/lexer"
	"arbour/utf"
)

// Parse builds the tree of a document.
func Parse(b []byte, scripting bool) *arena.Arena {
	return New(scripting).build(lexer.New(utf.Prepare(b)))
}

// Fragment builds the tree of a fragment that stands in c.
func Fragment(b []byte, scripting bool, c api.Context) (*arena.Arena, api.Errno) {
	m, why := Part(scripting, c)
	if why != api.OK {
		return nil, why
	}
	l := lexer.New(utf.Prepare(b))
	l.Set(context.Lexer(c, scripting))
	return m.build(l), api.OK
}

// build feeds all tokens of l.
func (m *Mason) build(l *lexer.Lexer) *arena.Arena {
	for !m.done {
		l.Foreign(m.Foreign())
		m.Feed(l.Next())
		// Nothing is told behind most tokens, and to set that would be to set Data.
		if m.told != 0 {
			l.Set(m.told)
		}
	}
	return m.arena
}

// Tree tells what was built by itself; of a fragment without the html that stands for its context.
func Tree(a *arena.Arena, part bool) api.Tree {
	whole := api.Tree{Kind: api.Document}
	if a == nil {
		return whole
	}
	top, ok := 0, true
	if part {
		top, ok = firstElement(a)
	}
	if ok {
		t, _ := a.Pure(top)
		whole.Kids = t.Kids
	}
	return whole
}

// firstElement tells the Document's first Element; false of none.
func firstElement(a *arena.Arena) (int, bool) {
	for _, kid := range a.Kids(0) {
		if x, _ := a.Node(kid); x.Kind == api.Element {
			return kid, true
		}
	}
	return 0, false
}
