package mason

import (
	"arbour/api"
	"arbour/attrs"
	"arbour/chars"
	"arbour/context"
	"arbour/names"
	"arbour/open"
)

// start takes a Start, and tells whether it shall go again.
func (m *Mason) start(t api.Token) bool {
	switch m.mode {
	case context.BeforeHtml:
		return m.startBeforeHTML(t)
	case context.BeforeHead:
		return m.startBeforeHead(t)
	case context.InHead:
		return m.startInHead(t)
	case context.AfterHead:
		return m.startAfterHead(t)
	case context.InBody:
		m.startInBody(t)
	case context.InText:
	case context.InTable:
		return m.startInTable(t)
	case context.InTableBody:
		return m.startInTableBody(t)
	case context.InRow:
		return m.startInRow(t)
	case context.InCell:
		return m.startInCell(t)
	case context.InTemplate:
		return m.startInTemplate(t)
	case context.AfterBody, context.AfterAfterBody:
		return m.startAfterBody(t)
	default:
		return m.goOn()
	}
	return false
}

func (m *Mason) startBeforeHTML(t api.Token) bool {
	if t.Name != "html" {
		return m.goOn()
	}
	m.insertFor(t)
	m.mode = context.BeforeHead
	return false
}

func (m *Mason) startBeforeHead(t api.Token) bool {
	switch t.Name {
	case "html":
		m.lateHTML(t)
	case "head":
		m.startHead(t.Attrs)
	default:
		return m.goOn()
	}
	return false
}

// startHead inserts the head, and goes into it.
func (m *Mason) startHead(l []api.Attr) {
	m.head = m.insert("head", l).H
	m.mode = context.InHead
}

func (m *Mason) startInHead(t api.Token) bool {
	switch {
	case isOfHead(t.Name):
		m.startOfHead(t)
	case t.Name == "html":
		m.lateHTML(t)
	case t.Name == "head":
	case t.Name == "noscript" && m.scripting:
		m.raw(t)
	default:
		return m.goOn()
	}
	return false
}

// isOfHead tells whether what a Start begins belongs in a head, wherever it comes.
func isOfHead(name string) bool {
	switch name {
	case "base", "link", "meta", "script", "style", "template", "title":
		return true
	}
	return false
}

// startOfHead takes such a Start by InHead's rules.
func (m *Mason) startOfHead(t api.Token) {
	switch t.Name {
	case "base", "link", "meta":
		m.insertVoid(t)
	case "template":
		m.startTemplate(t)
	default:
		m.raw(t)
	}
}

// startTemplate opens a template, with a marker and a mode of its own.
func (m *Mason) startTemplate(t api.Token) {
	m.insertFor(t)
	m.active.Mark()
	m.modes.Push(context.InTemplate)
	m.mode = context.InTemplate
}

// raw inserts an element whose text the lexer reads in a mode of its own.
func (m *Mason) raw(t api.Token) {
	m.insertFor(t)
	m.told = names.Raw(t.Name, m.scripting)
	m.back = m.mode
	m.mode = context.InText
}

func (m *Mason) startAfterHead(t api.Token) bool {
	switch {
	case isOfHead(t.Name):
		m.open.Push(open.Item[int]{H: m.head, NS: api.HTML, Name: "head"})
		m.startOfHead(t)
		m.open.Remove(m.head)
	case t.Name == "html":
		m.lateHTML(t)
	case t.Name == "head":
	case t.Name == "body":
		m.insertFor(t)
		m.mode = context.InBody
	default:
		return m.goOn()
	}
	return false
}

// lateHTML gives the html attributes of a Start that comes too late.
func (m *Mason) lateHTML(t api.Token) {
	if !m.open.Has("template") {
		m.more(0, t.Attrs)
	}
}

func (m *Mason) startAfterBody(t api.Token) bool {
	if t.Name != "html" {
		return m.goOn()
	}
	m.lateHTML(t)
	return false
}

func (m *Mason) startInTable(t api.Token) bool {
	switch t.Name {
	case "tbody", "tfoot", "thead":
		m.open.Clear("table")
		m.insertFor(t)
		m.mode = context.InTableBody
	case "td", "th", "tr":
		m.open.Clear("table")
		m.insert("tbody", nil)
		return m.goTo(context.InTableBody)
	case "table":
		return m.endTable()
	case "style", "script", "template":
		m.startOfHead(t)
	case "form":
		if m.form == none && !m.open.Has("template") {
			m.form = m.insertFor(t).H
			m.open.Pop()
		}
	default:
		m.startAheadOfTable(t)
	}
	return false
}

// startAheadOfTable takes a Start that a table has no rule for; but an input that is not to be seen may stand in one.
func (m *Mason) startAheadOfTable(t api.Token) {
	if kind, _ := attrs.Get(t.Attrs, "type"); t.Name == "input" && chars.Same(kind, "hidden") {
		m.insertVoid(t)
		return
	}
	m.fostering = true
	m.startInBody(t)
	m.fostering = false
}

func (m *Mason) startInTableBody(t api.Token) bool {
	switch t.Name {
	case "tr":
		m.open.Clear("tbody", "tfoot", "thead")
		m.insertFor(t)
		m.mode = context.InRow
		return false
	case "td", "th":
		m.open.Clear("tbody", "tfoot", "thead")
		m.insert("tr", nil)
		return m.goTo(context.InRow)
	case "tbody", "tfoot", "thead":
		return m.endTableBody("tbody", "tfoot", "thead")
	}
	return m.startInTable(t)
}

func (m *Mason) startInRow(t api.Token) bool {
	switch t.Name {
	case "td", "th":
		m.open.Clear("tr")
		m.insertFor(t)
		m.mode = context.InCell
		m.active.Mark()
		return false
	case "tbody", "tfoot", "thead", "tr":
		return m.endRow()
	}
	return m.startInTable(t)
}

func (m *Mason) startInCell(t api.Token) bool {
	switch t.Name {
	case "tbody", "td", "tfoot", "th", "thead", "tr":
		return m.open.Scope(open.Tables, "td", "th") && m.endCell("td", "th")
	}
	m.startInBody(t)
	return false
}

func (m *Mason) startInTemplate(t api.Token) bool {
	switch t.Name {
	case "tbody", "tfoot", "thead":
		return m.turnTemplate(context.InTable)
	case "tr":
		return m.turnTemplate(context.InTableBody)
	case "td", "th":
		return m.turnTemplate(context.InRow)
	}
	if isOfHead(t.Name) {
		m.startOfHead(t)
		return false
	}
	return m.turnTemplate(context.InBody)
}

// turnTemplate makes that the mode, and the last template's, by which the token shall go again.
func (m *Mason) turnTemplate(mode int) bool {
	m.modes.Pop()
	m.modes.Push(mode)
	return m.goTo(mode)
}
