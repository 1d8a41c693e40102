package mason

import (
	"arbour/api"
	"arbour/context"
	"arbour/names"
	"arbour/open"
)

// startInBody takes a Start by InBody's rules, which let none go again. What is told by its kind is formatting's or another's.
func (m *Mason) startInBody(t api.Token) {
	switch t.Name {
	case "html":
		m.lateHTML(t)
	case "base", "link", "meta", "script", "style", "template", "title":
		m.startOfHead(t)
	case "body":
		m.lateBody(t)
	case "form":
		m.startForm(t)
	case "li":
		m.startItem(t, "li")
	case "dd", "dt":
		m.startItem(t, "dd", "dt")
	case "button":
		m.startButton(t)
	case "table":
		if !m.arena.Quirky() {
			m.closeP()
		}
		m.insertFor(t)
		m.mode = context.InTable
	case "svg":
		m.reconstruct()
		m.insertSVG(t)
	case "area", "br", "embed", "img", "input", "wbr", "image", "hr", "source":
		m.startVoid(t)
	case "textarea", "xmp":
		m.startRaw(t)
	case "col", "head", "tbody", "td", "tfoot", "th", "thead", "tr":
	default:
		m.startByKind(t)
	}
}

// startByKind takes a Start of a block, of formatting, or of what no rule names.
func (m *Mason) startByKind(t api.Token) {
	switch {
	case names.Block(t.Name), t.Name == "p", t.Name == "pre", t.Name == "plaintext":
		m.startBlock(t)
	case names.Heading(t.Name):
		m.startHeading(t)
	case names.Formatting(t.Name):
		m.startFormatting(t)
	case t.Name == "noscript" && m.scripting:
		m.raw(t)
	default:
		m.reconstruct()
		m.insertFor(t)
		if stops(t.Name) {
			m.active.Mark()
		}
	}
}

// stops tells whether formatting does not go on into an element of the body.
func stops(name string) bool { return name == "applet" || name == "marquee" || name == "object" }

// lateBody gives the body, if there is one, attributes of a Start that comes too late.
func (m *Mason) lateBody(t api.Token) {
	x, _ := m.open.At(1)
	if isOf(x, "body") && !m.open.Has("template") {
		m.more(1, t.Attrs)
	}
}

func (m *Mason) startForm(t api.Token) {
	alone := !m.open.Has("template")
	if m.form != none && alone {
		return
	}
	m.closeP()
	x := m.insertFor(t)
	if alone {
		m.form = x.H
	}
}

// startItem inserts an item of a list, ahead of which the last item of these names is closed.
func (m *Mason) startItem(t api.Token, list ...string) {
	x, _ := m.open.At(m.open.mark(wall))
	if isOf(x, list...) {
		m.open.close(x.Name, x.Name)
	}
	m.closeP()
	m.insertFor(t)
}

func (m *Mason) startButton(t api.Token) {
	if m.open.Scope(open.Any, "button") {
		m.open.close("", "button")
	}
	m.reconstruct()
	m.insertFor(t)
}

// startVoid inserts an element that is closed at once.
func (m *Mason) startVoid(t api.Token) {
	switch t.Name {
	case "hr":
		m.closeP()
	case "source":
	case "image":
		t.Name = "img"
		m.reconstruct()
	default:
		m.reconstruct()
	}
	m.insertVoid(t)
}

// startRaw inserts an element within which no tags are read.
func (m *Mason) startRaw(t api.Token) {
	if t.Name == "textarea" {
		m.drops = true
	} else {
		m.closeP()
		m.reconstruct()
	}
	m.raw(t)
}

func (m *Mason) startBlock(t api.Token) {
	m.closeP()
	m.insertFor(t)
	switch t.Name {
	case "pre":
		m.drops = true
	case "plaintext":
		m.told = api.Plaintext
	}
}

// startHeading inserts a heading; right within another one it does not stand.
func (m *Mason) startHeading(t api.Token) {
	m.closeP()
	if x, _ := m.open.Top(); x.NS == api.HTML && names.Heading(x.Name) {
		m.open.Pop()
	}
	m.insertFor(t)
}

// startFormatting inserts formatting; an a and a nobr do not stand within their like.
func (m *Mason) startFormatting(t api.Token) {
	switch t.Name {
	case "a":
		if x, ok := m.active.Find("a"); ok {
			m.adopt("a")
			m.active.Remove(x.H)
			m.open.Remove(x.H)
		}
	case "nobr":
		m.reconstruct()
		if m.open.Scope(open.Any, "nobr") {
			m.adopt("nobr")
		}
	}
	m.reconstruct()
	x := m.insertFor(t)
	m.active.Push(x.H, x.Name, own(t.Attrs))
}

// closeP closes the p that is in button scope, if there is one.
func (m *Mason) closeP() {
	if m.open.Scope(open.Buttons, "p") {
		m.open.close("p", "p")
	}
}

// endInBody takes an End by InBody's rules, and tells whether it shall go again.
func (m *Mason) endInBody(name string) bool {
	switch name {
	case "body", "html":
		if !m.open.Scope(open.Any, "body") {
			return false
		}
		m.mode = context.AfterBody
		return name == "html"
	case "template":
		m.endTemplate()
	case "form":
		m.endForm()
	case "p":
		if !m.open.Scope(open.Buttons, "p") {
			m.insert("p", nil)
		}
		m.closeP()
	case "li":
		m.endItem(open.Lists, name)
	case "dd", "dt":
		m.endItem(open.Any, name)
	case "br":
		m.startVoid(api.Token{Kind: api.Start, Name: "br"})
	default:
		m.endByKind(name)
	}
	return false
}

// endForm closes the form; without a template what comes above it may stay open.
func (m *Mason) endForm() {
	if m.open.Has("template") {
		m.endBlock("form")
		return
	}
	form := m.form
	m.form = none
	if form != none && m.open.hasInScope(form) {
		m.open.Imply("")
		m.open.Remove(form)
	}
}

// endItem closes the last item of that name, if it is in a scope.
func (m *Mason) endItem(scope int, name string) {
	if m.open.Scope(scope, name) {
		m.open.close(name, name)
	}
}

func (m *Mason) endByKind(name string) {
	switch {
	case names.Block(name), name == "button", name == "pre":
		m.endBlock(name)
	case names.Heading(name):
		m.endBlock("h1", "h2", "h3", "h4", "h5", "h6")
	case names.Formatting(name):
		m.adopt(name)
	case stops(name):
		if m.endBlock(name) {
			m.active.Clear()
		}
	default:
		m.endAny(name)
	}
}

// endBlock closes the last element of these names, if one is in scope, and tells whether one was.
func (m *Mason) endBlock(list ...string) bool {
	if !m.open.Scope(open.Any, list...) {
		return false
	}
	m.open.close("", list...)
	return true
}

// endAny closes the last element of that name, but goes past nothing Special.
func (m *Mason) endAny(name string) {
	if i := m.open.last(name); i >= 0 && i >= m.open.mark(special) {
		m.open.cut(i)
	}
}
