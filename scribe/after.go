package scribe

import (
	"arbour/api"
	"arbour/context"
)

func (s *Scribe) afterBody(t api.Token) bool {
	switch t.Kind {
	case api.Doctype:
		return false
	case api.Text:
		if isSpace(t.Text) {
			return s.inBody(t)
		}
	case api.Comment:
		first, _ := s.open.At(0)
		s.comment(t, within(first))
		return false
	case api.Start:
		if t.Name == "html" {
			return s.inBody(t)
		}
	case api.End:
		if t.Name == "html" {
			if s.part == nil {
				s.mode = context.AfterAfterBody
			}
			return false
		}
	case api.EOF:
		s.done = true
		return false
	}
	return s.goTo(context.InBody)
}

func (s *Scribe) afterAfterBody(t api.Token) bool {
	switch t.Kind {
	case api.Comment:
		s.comment(t, none)
		return false
	case api.Doctype:
		return s.inBody(t)
	case api.Text:
		if isSpace(t.Text) {
			return s.inBody(t)
		}
	case api.Start:
		if t.Name == "html" {
			return s.inBody(t)
		}
	case api.EOF:
		s.done = true
		return false
	}
	return s.goTo(context.InBody)
}
