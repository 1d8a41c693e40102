package mason

import (
	"arbour/api"
	"arbour/context"
	"arbour/names"
)

// isForeign tells whether a token goes by Foreign's rules.
func (m *Mason) isForeign(t api.Token) bool {
	ns, name := context.Adjusted(m.open.List, m.part)
	if ns != api.SVG || t.Kind == api.EOF {
		return false
	}
	return !names.Point(ns, name) || t.Kind != api.Start && t.Kind != api.Text
}

// foreign lets a token go by Foreign's rules.
func (m *Mason) foreign(t api.Token) {
	switch t.Kind {
	case api.Text:
		m.insertText(t.Text)
	case api.Comment:
		m.bodyComment(t.Text)
	case api.Start:
		if breaksOut(t) {
			m.breakOut(t)
			return
		}
		m.insertSVG(t)
	case api.End:
		m.foreignEnd(t)
	}
}

// breaksOut tells whether a Start cannot stand within SVG.
func breaksOut(t api.Token) bool {
	if t.Name != "font" {
		return names.Breakout(t.Name)
	}
	for _, a := range t.Attrs {
		if a.Name == "color" || a.Name == "face" || a.Name == "size" {
			return true
		}
	}
	return false
}

// breakOut leaves SVG, and lets the token go by the mode's rules.
func (m *Mason) breakOut(t api.Token) {
	for {
		x, ok := m.open.Top()
		if !ok || x.NS == api.HTML || names.Point(x.NS, x.Name) {
			break
		}
		m.open.Pop()
	}
	m.rules(t)
}

// foreignEnd closes what an End means, whose name is in small letters, whatever the element's is in.
func (m *Mason) foreignEnd(t api.Token) {
	switch i := m.open.place(api.SVG, t.Name); {
	case t.Name == "br", t.Name == "p":
		m.breakOut(t)
	case i > m.open.mark(plain):
		m.open.cut(i)
	case m.open.Len() > 1:
		m.rules(t)
	}
}
