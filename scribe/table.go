package scribe

import (
	"arbour/api"
	"arbour/attrs"
	"arbour/chars"
	"arbour/context"
	"arbour/open"
)

func (s *Scribe) inTable(t api.Token) bool {
	switch t.Kind {
	case api.Text:
		if s.open.isIn("table", "tbody", "template", "tfoot", "thead", "tr") {
			s.back = s.mode
			return s.goTo(context.InTableText)
		}
		return s.inTableElse(t)
	case api.Comment:
		s.insertComment(t)
		return false
	case api.Start:
		return s.tableStart(t)
	case api.End:
		return s.tableEnd(t)
	case api.EOF:
		return s.inBody(t)
	}
	return false
}

// inTableElse takes what may not stand in a table: it comes ahead of it.
func (s *Scribe) inTableElse(t api.Token) bool {
	s.fostering = true
	again := s.inBody(t)
	s.fostering = false
	return again
}

func (s *Scribe) inTableText(t api.Token) bool {
	if t.Kind == api.Text {
		s.waits = append(s.waits, t.Text...)
		return false
	}
	text := string(s.waits)
	s.waits = nil
	if chars.Spaces(text) {
		s.insertText(text)
	} else {
		s.inTableElse(api.Token{Kind: api.Text, Text: text})
	}
	return s.goTo(s.back)
}

func (s *Scribe) tableStart(t api.Token) bool {
	switch t.Name {
	case "tbody", "tfoot", "thead":
		s.open.Clear("table")
		s.insertFor(t)
		s.mode = context.InTableBody
	case "td", "th", "tr":
		s.open.Clear("table")
		s.insert("tbody", nil)
		return s.goTo(context.InTableBody)
	case "table":
		return s.closeTable()
	case "style", "script", "template":
		return s.inHead(t)
	case "input":
		if !isHidden(t) {
			return s.inTableElse(t)
		}
		s.insertVoid(t)
	case "form":
		if s.form == none && !s.open.Has("template") {
			s.form = s.insertFor(t).H
			s.open.Pop()
		}
	default:
		return s.inTableElse(t)
	}
	return false
}

// isHidden tells whether an input is not to be seen.
func isHidden(t api.Token) bool {
	kind, ok := attrs.Get(t.Attrs, "type")
	return ok && chars.Same(kind, "hidden")
}

func (s *Scribe) tableEnd(t api.Token) bool {
	switch t.Name {
	case "table":
		s.closeTable()
	case "body", "html", "tbody", "td", "tfoot", "th", "thead", "tr":
	case "template":
		return s.inHead(t)
	default:
		return s.inTableElse(t)
	}
	return false
}

// closeTable closes the last table, and tells whether there was one.
func (s *Scribe) closeTable() bool {
	if !s.open.Scope(open.Tables, "table") {
		return false
	}
	s.open.Until("table")
	s.reset()
	return true
}

func (s *Scribe) inTableBody(t api.Token) bool {
	switch t.Kind {
	case api.Start:
		switch t.Name {
		case "tr":
			s.open.Clear("tbody", "tfoot", "thead")
			s.insertFor(t)
			s.mode = context.InRow
			return false
		case "td", "th":
			s.open.Clear("tbody", "tfoot", "thead")
			s.insert("tr", nil)
			return s.goTo(context.InRow)
		case "tbody", "tfoot", "thead":
			return s.closeTableBody("tbody", "tfoot", "thead")
		}
	case api.End:
		switch t.Name {
		case "tbody", "tfoot", "thead":
			s.closeTableBody(t.Name)
			return false
		case "table":
			return s.closeTableBody("tbody", "tfoot", "thead")
		case "body", "html", "td", "th", "tr":
			return false
		}
	}
	return s.inTable(t)
}

// closeTableBody closes the last body, foot or head of a table, if one of those asked for is in scope, and tells whether it was.
func (s *Scribe) closeTableBody(list ...string) bool {
	if !s.open.Scope(open.Tables, list...) {
		return false
	}
	s.open.Clear("tbody", "tfoot", "thead")
	s.open.Pop()
	s.mode = context.InTable
	return true
}

func (s *Scribe) inRow(t api.Token) bool {
	switch t.Kind {
	case api.Start:
		switch t.Name {
		case "td", "th":
			s.open.Clear("tr")
			s.insertFor(t)
			s.mode = context.InCell
			s.active.Mark()
			return false
		case "tbody", "tfoot", "thead", "tr":
			return s.closeRow()
		}
	case api.End:
		switch t.Name {
		case "tr":
			s.closeRow()
			return false
		case "table":
			return s.closeRow()
		case "tbody", "tfoot", "thead":
			return s.open.Scope(open.Tables, t.Name) && s.closeRow()
		case "body", "html", "td", "th":
			return false
		}
	}
	return s.inTable(t)
}

// closeRow closes the last row, and tells whether there was one.
func (s *Scribe) closeRow() bool {
	if !s.open.Scope(open.Tables, "tr") {
		return false
	}
	s.open.Clear("tr")
	s.open.Pop()
	s.mode = context.InTableBody
	return true
}

func (s *Scribe) inCell(t api.Token) bool {
	switch t.Kind {
	case api.Start:
		switch t.Name {
		case "tbody", "td", "tfoot", "th", "thead", "tr":
			return s.open.Scope(open.Tables, "td", "th") && s.closeCell("td", "th")
		}
	case api.End:
		switch t.Name {
		case "td", "th":
			if s.open.Scope(open.Tables, t.Name) {
				s.closeCell(t.Name)
			}
			return false
		case "body", "html":
			return false
		case "table", "tbody", "tfoot", "thead", "tr":
			return s.open.Scope(open.Tables, t.Name) && s.closeCell("td", "th")
		}
	}
	return s.inBody(t)
}

// closeCell closes the last cell of these names.
func (s *Scribe) closeCell(list ...string) bool {
	s.open.Imply("")
	s.open.Until(list...)
	s.active.Clear()
	return s.goTo(context.InRow)
}
