package scribe

import (
	"arbour/api"
	"arbour/context"
	"arbour/names"
	"arbour/open"
)

func (s *Scribe) bodyEnd(t api.Token) bool {
	switch t.Name {
	case "body", "html":
		if !s.open.Scope(open.Any, "body") {
			return false
		}
		s.mode = context.AfterBody
		return t.Name == "html"
	case "template":
		return s.inHead(t)
	case "form":
		s.endForm()
	case "p":
		if !s.open.hasP() {
			s.insert("p", nil)
		}
		s.closeP()
	case "li":
		if s.open.Scope(open.Lists, "li") {
			s.open.Imply("li")
			s.open.Until("li")
		}
	case "dd", "dt":
		if s.open.Scope(open.Any, t.Name) {
			s.open.Imply(t.Name)
			s.open.Until(t.Name)
		}
	case "br":
		s.startVoid(api.Token{Kind: api.Start, Name: "br"})
	default:
		s.endOther(t.Name)
	}
	return false
}

// endForm closes the form; without a template what comes above it may stay open.
func (s *Scribe) endForm() {
	if s.open.Has("template") {
		s.endBlock("form")
		return
	}
	form := s.form
	s.form = none
	if form == none || !s.open.hasInScope(form) {
		return
	}
	s.open.Imply("")
	s.open.Remove(form)
}

func (s *Scribe) endOther(name string) {
	switch {
	case names.Block(name), name == "button", name == "pre":
		s.endBlock(name)
	case marks(name):
		if s.endBlock(name) {
			s.active.Clear()
		}
	case names.Heading(name):
		s.endBlock("h1", "h2", "h3", "h4", "h5", "h6")
	case names.Formatting(name):
		s.adopt(name)
	default:
		s.anyEnd(name)
	}
}

// endBlock closes the last element of these names, if one is in scope, and tells whether one was.
func (s *Scribe) endBlock(list ...string) bool {
	if !s.open.Scope(open.Any, list...) {
		return false
	}
	s.open.Imply("")
	s.open.Until(list...)
	return true
}

// anyEnd closes the last element of that name, but goes past nothing Special.
func (s *Scribe) anyEnd(name string) {
	if !s.open.Has(name) {
		return
	}
	for i := s.open.Len() - 1; i >= 0; i-- {
		x, _ := s.open.At(i)
		if isOf(x, name) {
			s.open.cut(i)
			return
		}
		if names.Special(x.NS, x.Name) {
			return
		}
	}
}
