package mason

import (
	"arbour/api"
	"arbour/context"
	"arbour/open"
)

// end takes an End, and tells whether it shall go again.
func (m *Mason) end(t api.Token) bool {
	switch m.mode {
	case context.BeforeHtml, context.BeforeHead:
		return (t.Name == "head" || opensBody(t.Name)) && m.goOn()
	case context.InHead, context.AfterHead:
		return m.endOfHead(t.Name)
	case context.InBody:
		return m.endInBody(t.Name)
	case context.InText:
		m.open.Pop()
		m.mode = m.back
	case context.InTable:
		return m.endInTable(t.Name)
	case context.InTableBody:
		return m.endInTableBody(t.Name)
	case context.InRow:
		return m.endInRow(t.Name)
	case context.InCell:
		return m.endInCell(t.Name)
	case context.InTemplate:
		if t.Name == "template" {
			m.endTemplate()
		}
	case context.AfterBody:
		return m.endAfterBody(t.Name)
	default:
		return m.goOn()
	}
	return false
}

// opensBody tells whether an End, though nothing of it is open, is not ignored ahead of the body.
func opensBody(name string) bool { return name == "body" || name == "html" || name == "br" }

// endOfHead takes an End in the head or behind it.
func (m *Mason) endOfHead(name string) bool {
	switch {
	case name == "template":
		m.endTemplate()
	case name == "head" && m.mode == context.InHead:
		m.endHead()
	case opensBody(name):
		return m.goOn()
	}
	return false
}

// endHead closes the head.
func (m *Mason) endHead() {
	m.open.Pop()
	m.mode = context.AfterHead
}

// endTemplate closes the last template that is open.
func (m *Mason) endTemplate() {
	if m.open.Has("template") {
		m.open.Thorough()
		m.leaveTemplate()
	}
}

// leaveTemplate takes away all that startTemplate brought, and what has come above it.
func (m *Mason) leaveTemplate() {
	m.open.Until("template")
	m.active.Clear()
	m.modes.Pop()
	m.reset()
}

func (m *Mason) endAfterBody(name string) bool {
	if name != "html" {
		return m.goOn()
	}
	if m.part == nil {
		m.mode = context.AfterAfterBody
	}
	return false
}

func (m *Mason) endInTable(name string) bool {
	switch name {
	case "table":
		m.endTable()
	case "body", "html", "tbody", "td", "tfoot", "th", "thead", "tr":
	case "template":
		m.endTemplate()
	default:
		m.fostering = true
		m.endInBody(name)
		m.fostering = false
	}
	return false
}

// endTable closes the last table, and tells whether there was one.
func (m *Mason) endTable() bool {
	if !m.open.Scope(open.Tables, "table") {
		return false
	}
	m.open.Until("table")
	m.reset()
	return true
}

func (m *Mason) endInTableBody(name string) bool {
	switch name {
	case "tbody", "tfoot", "thead":
		m.endTableBody(name)
		return false
	case "table":
		return m.endTableBody("tbody", "tfoot", "thead")
	case "body", "html", "td", "th", "tr":
		return false
	}
	return m.endInTable(name)
}

// endTableBody closes the last body, foot or head of a table, if one of those asked for is in scope, and tells whether it was.
func (m *Mason) endTableBody(list ...string) bool {
	if !m.open.Scope(open.Tables, list...) {
		return false
	}
	m.open.Clear("tbody", "tfoot", "thead")
	m.open.Pop()
	return m.goTo(context.InTable)
}

func (m *Mason) endInRow(name string) bool {
	switch name {
	case "tr":
		m.endRow()
		return false
	case "table":
		return m.endRow()
	case "tbody", "tfoot", "thead":
		return m.open.Scope(open.Tables, name) && m.endRow()
	case "body", "html", "td", "th":
		return false
	}
	return m.endInTable(name)
}

// endRow closes the last row, and tells whether there was one.
func (m *Mason) endRow() bool {
	if !m.open.Scope(open.Tables, "tr") {
		return false
	}
	m.open.Clear("tr")
	m.open.Pop()
	return m.goTo(context.InTableBody)
}

func (m *Mason) endInCell(name string) bool {
	switch name {
	case "td", "th":
		if m.open.Scope(open.Tables, name) {
			m.endCell(name)
		}
		return false
	case "body", "html":
		return false
	case "table", "tbody", "tfoot", "thead", "tr":
		return m.open.Scope(open.Tables, name) && m.endCell("td", "th")
	}
	return m.endInBody(name)
}

// endCell closes the last cell of these names.
func (m *Mason) endCell(list ...string) bool {
	m.open.close("", list...)
	m.active.Clear()
	return m.goTo(context.InRow)
}
