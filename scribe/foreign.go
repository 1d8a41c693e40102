package scribe

import (
	"arbour/api"
	"arbour/chars"
	"arbour/context"
	"arbour/names"
)

// goesForeign tells whether a token goes by Foreign's rules.
func (s *Scribe) goesForeign(t api.Token) bool {
	ns, name := context.Adjusted(s.open.List, s.part)
	if ns != api.SVG || t.Kind == api.EOF {
		return false
	}
	return !names.Point(ns, name) || t.Kind != api.Start && t.Kind != api.Text
}

// foreign lets a token go by Foreign's rules.
func (s *Scribe) foreign(t api.Token) {
	switch t.Kind {
	case api.Text:
		s.insertText(t.Text)
	case api.Comment:
		s.insertComment(t)
	case api.Start:
		if breaksOut(t) {
			s.breakOut(t)
			return
		}
		s.insertSVG(t)
	case api.End:
		s.foreignEnd(t)
	}
}

// breaksOut tells whether a Start cannot stand within SVG.
func breaksOut(t api.Token) bool {
	if t.Name != "font" {
		return names.Breakout(t.Name)
	}
	for _, a := range t.Attrs {
		switch a.Name {
		case "color", "face", "size":
			return true
		}
	}
	return false
}

// breakOut leaves SVG, and lets the token go by the mode's rules.
func (s *Scribe) breakOut(t api.Token) {
	for {
		x, ok := s.open.Top()
		if !ok || x.NS == api.HTML || names.Point(x.NS, x.Name) {
			break
		}
		s.open.Pop()
	}
	s.rules(t)
}

// foreignEnd closes what an End means, whose name is in small letters, whatever the element's is in.
func (s *Scribe) foreignEnd(t api.Token) {
	if t.Name == "br" || t.Name == "p" {
		s.breakOut(t)
		return
	}
	if i := s.meant(t.Name); i >= 0 {
		s.open.cut(i)
	} else if s.open.Len() > 1 {
		s.rules(t)
	}
}

// meant tells the place of the element of SVG, above those of HTML, that an End of this name means; -1 of none.
func (s *Scribe) meant(name string) int {
	if !s.open.hasKind(api.SVG, name) {
		return -1
	}
	for i := s.open.Len() - 1; i > 0; i-- {
		x, _ := s.open.At(i)
		if x.NS == api.HTML {
			break
		}
		if chars.Lower(x.Name) == name {
			return i
		}
	}
	return -1
}
