package scribe

import (
	"arbour/api"
	"arbour/context"
	"arbour/names"
	"arbour/open"
)

func (s *Scribe) initial(t api.Token) bool {
	switch t.Kind {
	case api.Text:
		if isSpace(t.Text) {
			return false
		}
	case api.Comment:
		s.comment(t, none)
		return false
	case api.Doctype:
		s.doctype(t)
		if t.Name != "html" {
			s.quirks()
		}
		s.mode = context.BeforeHtml
		return false
	}
	s.quirks()
	return s.goTo(context.BeforeHtml)
}

func (s *Scribe) beforeHTML(t api.Token) bool {
	switch t.Kind {
	case api.Doctype:
		return false
	case api.Text:
		if isSpace(t.Text) {
			return false
		}
	case api.Comment:
		s.comment(t, none)
		return false
	case api.Start:
		if t.Name == "html" {
			s.insertFor(t)
			s.mode = context.BeforeHead
			return false
		}
	case api.End:
		if !opensBody(t) && t.Name != "head" {
			return false
		}
	}
	s.insert("html", nil)
	return s.goTo(context.BeforeHead)
}

// opensBody tells whether an End, though nothing of it is open, is not ignored ahead of the body.
func opensBody(t api.Token) bool { return t.Name == "body" || t.Name == "html" || t.Name == "br" }

func (s *Scribe) beforeHead(t api.Token) bool {
	switch t.Kind {
	case api.Doctype:
		return false
	case api.Text:
		if isSpace(t.Text) {
			return false
		}
	case api.Comment:
		s.insertComment(t)
		return false
	case api.Start:
		switch t.Name {
		case "html":
			return s.inBody(t)
		case "head":
			s.insertHead(t.Attrs)
			return false
		}
	case api.End:
		if !opensBody(t) && t.Name != "head" {
			return false
		}
	}
	s.insertHead(nil)
	return true
}

// insertHead inserts the head, and goes into it.
func (s *Scribe) insertHead(l []api.Attr) {
	s.head = s.insert("head", l).H
	s.mode = context.InHead
}

func (s *Scribe) inHead(t api.Token) bool {
	switch t.Kind {
	case api.Doctype:
		return false
	case api.Text:
		if isSpace(t.Text) {
			s.insertText(t.Text)
			return false
		}
	case api.Comment:
		s.insertComment(t)
		return false
	case api.Start:
		if done, again := s.headStart(t); done {
			return again
		}
	case api.End:
		switch t.Name {
		case "template":
			s.endTemplate()
			return false
		case "head":
			s.open.Pop()
			s.mode = context.AfterHead
			return false
		case "body", "html", "br":
		default:
			return false
		}
	}
	s.open.Pop()
	return s.goTo(context.AfterHead)
}

// headStart takes a Start that stands in a head, and tells whether it does, and whether it shall go again.
func (s *Scribe) headStart(t api.Token) (done, again bool) {
	switch t.Name {
	case "html":
		return true, s.inBody(t)
	case "base", "link", "meta":
		s.insertVoid(t)
	case "title", "style", "script":
		s.raw(t)
	case "noscript":
		if !s.scripting {
			return false, false
		}
		s.raw(t)
	case "template":
		s.startTemplate(t)
	case "head":
	default:
		return false, false
	}
	return true, false
}

// raw inserts an element whose text the lexer reads in a mode of its own.
func (s *Scribe) raw(t api.Token) {
	s.insertFor(t)
	s.told = names.Raw(t.Name, s.scripting)
	s.back = s.mode
	s.mode = context.InText
}

func (s *Scribe) inText(t api.Token) bool {
	switch t.Kind {
	case api.Text:
		s.insertText(t.Text)
	case api.EOF:
		s.open.Pop()
		return s.goTo(s.back)
	case api.End:
		s.open.Pop()
		s.mode = s.back
	}
	return false
}

func (s *Scribe) afterHead(t api.Token) bool {
	switch t.Kind {
	case api.Doctype:
		return false
	case api.Text:
		if isSpace(t.Text) {
			s.insertText(t.Text)
			return false
		}
	case api.Comment:
		s.insertComment(t)
		return false
	case api.Start:
		switch t.Name {
		case "html":
			return s.inBody(t)
		case "body":
			s.insertFor(t)
			s.mode = context.InBody
			return false
		case "base", "link", "meta", "script", "style", "template", "title":
			return s.lateInHead(t)
		case "head":
			return false
		}
	case api.End:
		if t.Name == "template" {
			return s.inHead(t)
		}
		if !opensBody(t) {
			return false
		}
	}
	s.insert("body", nil)
	return s.goTo(context.InBody)
}

// lateInHead puts into the head what comes behind it.
func (s *Scribe) lateInHead(t api.Token) bool {
	head := s.head
	s.open.Push(open.Item[int]{H: head, NS: api.HTML, Name: "head"})
	again := s.inHead(t)
	s.open.Remove(head)
	return again
}
