package scribe

import (
	"arbour/api"
	"arbour/context"
)

// startTemplate opens a template, with a marker and a mode of its own.
func (s *Scribe) startTemplate(t api.Token) {
	s.insertFor(t)
	s.active.Mark()
	s.modes.Push(context.InTemplate)
	s.mode = context.InTemplate
}

// endTemplate closes the last template that is open.
func (s *Scribe) endTemplate() {
	if !s.open.Has("template") {
		return
	}
	s.open.Thorough()
	s.leaveTemplate()
}

// leaveTemplate takes away all that startTemplate brought, and what has come above it.
func (s *Scribe) leaveTemplate() {
	s.open.Until("template")
	s.active.Clear()
	s.modes.Pop()
	s.reset()
}

func (s *Scribe) inTemplate(t api.Token) bool {
	switch t.Kind {
	case api.Text, api.Comment, api.Doctype:
		return s.inBody(t)
	case api.Start:
		return s.templateStart(t)
	case api.End:
		if t.Name == "template" {
			return s.inHead(t)
		}
	case api.EOF:
		if s.open.Has("template") {
			s.leaveTemplate()
			return true
		}
		s.done = true
	}
	return false
}

func (s *Scribe) templateStart(t api.Token) bool {
	switch t.Name {
	case "base", "link", "meta", "script", "style", "template", "title":
		return s.inHead(t)
	case "tbody", "tfoot", "thead":
		return s.turnTemplate(context.InTable)
	case "tr":
		return s.turnTemplate(context.InTableBody)
	case "td", "th":
		return s.turnTemplate(context.InRow)
	}
	return s.turnTemplate(context.InBody)
}

// turnTemplate makes that the mode, and the last template's, by which the token shall go again.
func (s *Scribe) turnTemplate(mode int) bool {
	s.modes.Pop()
	s.modes.Push(mode)
	return s.goTo(mode)
}
