package mason

import (
	"arbour/api"
	"arbour/chars"
	"arbour/context"
)

// text takes a Text whose runes are all Spaces or all others, where the mode tells them apart.
func (m *Mason) text(text string) bool {
	switch m.mode {
	case context.Initial, context.BeforeHtml, context.BeforeHead:
		return !isSpace(text) && m.goOn()
	case context.InHead, context.AfterHead:
		if !isSpace(text) {
			return m.goOn()
		}
		m.insertText(text)
	case context.InText:
		m.insertText(text)
	case context.InTable, context.InTableBody, context.InRow:
		return m.tableText(text)
	case context.InTableText:
		m.waits = append(m.waits, text...)
	case context.AfterBody, context.AfterAfterBody:
		if !isSpace(text) {
			return m.goOn()
		}
		m.bodyText(text)
	default:
		m.bodyText(text)
	}
	return false
}

// bodyText takes a Text by InBody's rules.
func (m *Mason) bodyText(text string) {
	m.reconstruct()
	m.insertText(text)
}

// tableText takes a Text by InTable's rules: whether it may stand in the table shows at its end.
func (m *Mason) tableText(text string) bool {
	if m.open.isIn("table", "tbody", "template", "tfoot", "thead", "tr") {
		m.back = m.mode
		return m.goTo(context.InTableText)
	}
	m.fosterText(text)
	return false
}

// fosterText takes a Text by InTable's Else.
func (m *Mason) fosterText(text string) {
	m.fostering = true
	m.bodyText(text)
	m.fostering = false
}

// pour puts all that waits in a table into it, if it is space, else ahead of it.
func (m *Mason) pour() bool {
	text := string(m.waits)
	m.waits = nil
	if chars.Spaces(text) {
		m.insertText(text)
	} else {
		m.fosterText(text)
	}
	return m.goTo(m.back)
}

// comment takes a Comment.
func (m *Mason) comment(text string) {
	switch m.mode {
	case context.Initial, context.BeforeHtml, context.AfterAfterBody:
		m.insertComment(text, 0)
	case context.InText:
	case context.AfterBody:
		m.insertComment(text, m.withinAt(0))
	default:
		m.bodyComment(text)
	}
}

// bodyComment puts a comment under the current element, also while fostering.
func (m *Mason) bodyComment(text string) {
	x, _ := m.open.Top()
	m.insertComment(text, m.within(x))
}

// doctype takes a Doctype, which counts at the beginning alone.
func (m *Mason) doctype(name string) {
	if m.mode != context.Initial {
		return
	}
	n, _ := m.arena.Make(api.DoctypeNode, 0, name, nil, "")
	m.arena.Append(0, n)
	if name != "html" {
		m.arena.Quirks(true)
	}
	m.mode = context.BeforeHtml
}

// eof takes an EOF.
func (m *Mason) eof() bool {
	switch m.mode {
	case context.Initial, context.BeforeHtml, context.BeforeHead, context.InHead, context.AfterHead:
		return m.goOn()
	case context.InText:
		m.open.Pop()
		return m.goTo(m.back)
	case context.InTemplate:
		return m.templateEOF()
	case context.AfterBody, context.AfterAfterBody:
		m.done = true
		return false
	}
	if m.modes.Len() > 0 {
		return m.templateEOF()
	}
	m.done = true
	return false
}

// templateEOF leaves the last template, and goes again; without one the parse is done.
func (m *Mason) templateEOF() bool {
	if m.open.Has("template") {
		m.leaveTemplate()
		return true
	}
	m.done = true
	return false
}
