package scribe

import (
	"arbour/api"
	"arbour/context"
	"arbour/names"
	"arbour/open"
)

func (s *Scribe) inBody(t api.Token) bool {
	switch t.Kind {
	case api.Text:
		s.reconstruct()
		s.insertText(t.Text)
	case api.Comment:
		s.insertComment(t)
	case api.Start:
		return s.bodyStart(t)
	case api.End:
		return s.bodyEnd(t)
	case api.EOF:
		if s.modes.Len() > 0 {
			return s.inTemplate(t)
		}
		s.done = true
	}
	return false
}

// bodyStart takes a Start by its name; what is told by its kind is formatting's or another's.
func (s *Scribe) bodyStart(t api.Token) bool {
	switch t.Name {
	case "html":
		if !s.open.Has("template") {
			s.more(0, t.Attrs)
		}
	case "base", "link", "meta", "script", "style", "template", "title":
		return s.inHead(t)
	case "body":
		s.lateBody(t)
	case "form":
		s.startForm(t)
	case "li":
		s.startItem(t, "li")
	case "dd", "dt":
		s.startItem(t, "dd", "dt")
	case "table":
		if !s.quirky {
			s.closeP()
		}
		s.insertFor(t)
		s.mode = context.InTable
	case "svg":
		s.reconstruct()
		s.insertSVG(t)
	case "a", "nobr":
		s.startAlone(t)
	case "area", "br", "embed", "img", "input", "wbr", "source", "hr", "image":
		s.startVoid(t)
	case "col", "head", "tbody", "td", "tfoot", "th", "thead", "tr":
	default:
		s.startOther(t)
	}
	return false
}

// lateBody gives the body, if there is one, attributes of a Start that comes too late.
func (s *Scribe) lateBody(t api.Token) {
	x, _ := s.open.At(1)
	if isOf(x, "body") && !s.open.Has("template") {
		s.more(1, t.Attrs)
	}
}

func (s *Scribe) startForm(t api.Token) {
	alone := !s.open.Has("template")
	if s.form != none && alone {
		return
	}
	s.closeP()
	x := s.insertFor(t)
	if alone {
		s.form = x.H
	}
}

// startItem inserts an item of a list, ahead of which the last item of these names is closed.
func (s *Scribe) startItem(t api.Token, list ...string) {
	for i := s.open.Len() - 1; i >= 0; i-- {
		x, _ := s.open.At(i)
		if isOf(x, list...) {
			s.open.Imply(x.Name)
			s.open.Until(x.Name)
			break
		}
		if names.Special(x.NS, x.Name) && !isOf(x, "address", "div", "p") {
			break
		}
	}
	s.closeP()
	s.insertFor(t)
}

// startAlone inserts formatting that does not stand within its like.
func (s *Scribe) startAlone(t api.Token) {
	if t.Name == "nobr" {
		s.reconstruct()
		if s.open.Scope(open.Any, "nobr") {
			s.adopt("nobr")
		}
	} else if x, ok := s.active.Find("a"); ok {
		s.adopt("a")
		s.active.Remove(x.H)
		s.open.Remove(x.H)
	}
	s.startFormatting(t)
}

func (s *Scribe) startFormatting(t api.Token) {
	s.reconstruct()
	x := s.insertFor(t)
	s.active.Push(x.H, x.Name, own(t.Attrs))
}

// startVoid inserts an element that is closed at once.
func (s *Scribe) startVoid(t api.Token) {
	switch t.Name {
	case "source":
	case "hr":
		s.closeP()
	case "image":
		t.Name = "img"
		s.reconstruct()
	default:
		s.reconstruct()
	}
	s.insertVoid(t)
}

func (s *Scribe) startOther(t api.Token) {
	switch {
	case names.Formatting(t.Name):
		s.startFormatting(t)
	case names.Heading(t.Name):
		s.closeP()
		if x, _ := s.open.Top(); x.NS == api.HTML && names.Heading(x.Name) {
			s.open.Pop()
		}
		s.insertFor(t)
	case names.Block(t.Name), t.Name == "p", t.Name == "pre", t.Name == "plaintext":
		s.startBlock(t)
	case t.Name == "textarea", t.Name == "xmp", t.Name == "noscript" && s.scripting:
		s.startRaw(t)
	default:
		s.startPlain(t)
	}
}

func (s *Scribe) startBlock(t api.Token) {
	s.closeP()
	s.insertFor(t)
	switch t.Name {
	case "pre":
		s.drops = true
	case "plaintext":
		s.told = api.Plaintext
	}
}

func (s *Scribe) startRaw(t api.Token) {
	switch t.Name {
	case "textarea":
		s.drops = true
	case "xmp":
		s.closeP()
		s.reconstruct()
	}
	s.raw(t)
}

// startPlain inserts an element that nothing but formatting is asked for ahead of.
func (s *Scribe) startPlain(t api.Token) {
	if t.Name == "button" && s.open.Scope(open.Any, "button") {
		s.open.Imply("")
		s.open.Until("button")
	}
	s.reconstruct()
	s.insertFor(t)
	if marks(t.Name) {
		s.active.Mark()
	}
}

// marks tells whether formatting does not go on into an element of the body.
func marks(name string) bool { return name == "applet" || name == "marquee" || name == "object" }

// closeP closes the p that is in button scope, if there is one.
func (s *Scribe) closeP() {
	if s.open.hasP() {
		s.open.Imply("p")
		s.open.Until("p")
	}
}
