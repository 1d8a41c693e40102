package scribe

import (
	"arbour/api"
	"arbour/context"
	"arbour/lexer"
	"arbour/utf"
)

// Parse tells all operations of a document.
func Parse(b []byte, scripting bool) []api.Op {
	return New(scripting).run(lexer.New(utf.Prepare(b)))
}

// Fragment tells all operations of a fragment that stands in c.
func Fragment(b []byte, scripting bool, c api.Context) ([]api.Op, api.Errno) {
	s, why := Part(scripting, c)
	if why != api.OK {
		return nil, why
	}
	l := lexer.New(utf.Prepare(b))
	l.Set(context.Lexer(c, scripting))
	return s.run(l), api.OK
}

// run feeds all tokens of l.
func (s *Scribe) run(l *lexer.Lexer) []api.Op {
	var all []api.Op
	for !s.done {
		l.Foreign(s.Foreign())
		all = append(all, s.Feed(l.Next())...)
		// Nothing is told behind most tokens, and to set that would be to set Data.
		if s.told != 0 {
			l.Set(s.told)
		}
	}
	return all
}
