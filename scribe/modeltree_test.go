package scribe

import (
	"slices"

	"arbour/api"
	"arbour/attrs"
	"arbour/chars"
	"arbour/names"
)

func (n *node) is(list ...string) bool {
	return n != nil && n.ns == api.HTML && slices.Contains(list, n.name)
}

// inner is what kids of an element hang under.
func (n *node) inner() *node {
	if n.is("template") {
		return n.kids[0]
	}
	return n
}

func (m *model) current() *node {
	if len(m.open) == 0 {
		return nil
	}
	return m.open[len(m.open)-1]
}

func (m *model) pop() *node {
	x := m.current()
	m.open = m.open[:len(m.open)-1]
	return x
}

func (m *model) until(list ...string) {
	for !m.pop().is(list...) {
	}
}

func (m *model) imply(but string) {
	for x := m.current(); x.ns == api.HTML && names.Implied(x.name) && x.name != but; x = m.current() {
		m.pop()
	}
}

func (m *model) has(name string) bool {
	return slices.ContainsFunc(m.open, func(x *node) bool { return x.is(name) })
}

func (m *model) scope(kind string, list ...string) bool {
	for i := len(m.open) - 1; i >= 0; i-- {
		x := m.open[i]
		bounds := names.Bound(x.ns, x.name)
		switch kind {
		case "lists":
			bounds = bounds || x.is("ol", "ul")
		case "buttons":
			bounds = bounds || x.is("button")
		case "tables":
			bounds = x.is("html", "table", "template")
		}
		if x.is(list...) || bounds {
			return x.is(list...)
		}
	}
	return false
}

// scopeOf tells whether the element itself is in scope.
func (m *model) scopeOf(n *node) bool {
	for i := len(m.open) - 1; i >= 0; i-- {
		if x := m.open[i]; x == n || names.Bound(x.ns, x.name) {
			return x == n
		}
	}
	return false
}

func (m *model) remove(n *node) {
	if i := slices.Index(m.open, n); i >= 0 {
		m.open = slices.Delete(m.open, i, i+1)
	}
}

func (m *model) adjusted() (int, string) {
	if m.part != nil && len(m.open) == 1 {
		return m.part.NS, m.part.Name
	}
	if len(m.open) == 0 {
		return 0, ""
	}
	return m.current().ns, m.current().name
}

func (m *model) reset() {
	for i := len(m.open) - 1; i >= 0; i-- {
		ns, name := m.open[i].ns, m.open[i].name
		if i == 0 && m.part != nil {
			ns, name = m.part.NS, m.part.Name
		}
		if ns != api.HTML {
			name = ""
		}
		mode := map[string]string{"td": "InCell", "th": "InCell", "tr": "InRow", "tbody": "InTableBody", "tfoot": "InTableBody", "thead": "InTableBody",
			"table": "InTable", "head": "InHead", "body": "InBody", "html": "BeforeHead"}[name]
		if name == "template" {
			mode = m.modes[len(m.modes)-1]
		}
		if name == "html" && m.head != nil {
			mode = "AfterHead"
		}
		if i == 0 && (mode == "" || mode == "InCell" || mode == "InHead") {
			mode = "InBody"
		}
		if mode != "" {
			m.mode = mode
			return
		}
	}
	m.mode = "InBody"
}

// hang puts n right ahead of a kid of up, or at its end, if that is nil.
func (m *model) hang(n, up, ahead *node) {
	i := len(up.kids)
	if ahead != nil {
		i = slices.Index(up.kids, ahead)
	}
	if n.kind == api.TextNode {
		if up.kind == api.Document {
			return
		}
		if i > 0 && up.kids[i-1].kind == api.TextNode {
			up.kids[i-1].text += n.text
			return
		}
	}
	up.kids = slices.Insert(up.kids, i, n)
	n.up = up
}

func (m *model) detach(n *node) {
	if n.up != nil {
		n.up.kids = slices.DeleteFunc(n.up.kids, func(x *node) bool { return x == n })
		n.up = nil
	}
}

// place tells what to hang under, and ahead of what, as if x were the current one.
func (m *model) place(x *node, fostering bool) (up, ahead *node) {
	if x == nil {
		return m.root, nil
	}
	if !fostering || !x.is("table", "tbody", "tfoot", "thead", "tr") {
		return x.inner(), nil
	}
	table, template := -1, -1
	for i, x := range m.open {
		if x.is("table") {
			table = i
		}
		if x.is("template") {
			template = i
		}
	}
	switch {
	case template >= 0 && (table < 0 || table < template):
		return m.open[template].inner(), nil
	case table < 0:
		return m.open[0], nil
	case m.open[table].up != nil:
		return m.open[table].up, m.open[table]
	}
	return m.open[table-1].inner(), nil
}

func (m *model) insert(n *node) {
	if n.is("template") {
		n.kids = []*node{{kind: api.Content, up: n}}
	}
	up, ahead := m.place(m.current(), m.fostering)
	m.hang(n, up, ahead)
	m.open = append(m.open, n)
}

func (m *model) insertSVG(t api.Token, name string) {
	m.insert(&node{kind: api.Element, ns: api.SVG, name: name, attrs: attrs.Unique(attrs.Foreign(t.Attrs))})
	if t.Self {
		m.pop()
	}
}

func (m *model) write(s string) {
	up, ahead := m.place(m.current(), m.fostering)
	m.hang(&node{kind: api.TextNode, text: s}, up, ahead)
}

func (m *model) comment(where, s string) {
	up := m.root
	switch where {
	case "comment":
		up = m.current().inner()
	case "comment@first":
		up = m.open[0]
	}
	m.hang(&node{kind: api.CommentNode, text: s}, up, nil)
}

func (m *model) foreign(t api.Token) {
	ns, _ := m.adjusted()
	switch t.Kind {
	case api.Text:
		m.write(t.Text)
	case api.Comment:
		m.comment("comment", t.Text)
	case api.Start, api.End:
		out := t.Kind == api.End && (t.Name == "br" || t.Name == "p") || t.Kind == api.Start && names.Breakout(t.Name)
		for _, a := range t.Attrs {
			out = out || t.Name == "font" && (a.Name == "color" || a.Name == "face" || a.Name == "size")
		}
		switch {
		case out:
			for x := m.current(); x.ns != api.HTML && !names.Point(x.ns, x.name); x = m.current() {
				m.pop()
			}
			m.byMode(t)
		case t.Kind == api.Start:
			m.insertSVG(t, names.Fix(t.Name))
		default:
			m.foreignEnd(t)
		}
	}
	if ns != api.SVG {
		panic("not foreign")
	}
}

func (m *model) foreignEnd(t api.Token) {
	for i := len(m.open) - 1; i > 0; i-- {
		if chars.Lower(m.open[i].name) == t.Name {
			m.open = m.open[:i]
			return
		}
		if m.open[i-1].ns == api.HTML {
			m.byMode(t)
			return
		}
	}
}

func (m *model) closeP() {
	if m.scope("buttons", "p") {
		m.imply("p")
		m.until("p")
	}
}

func (m *model) closeItem(list []string) {
	for i := len(m.open) - 1; i >= 0; i-- {
		x := m.open[i]
		if x.is(list...) {
			m.imply(x.name)
			m.until(x.name)
			return
		}
		if names.Special(x.ns, x.name) && !x.is("address", "div", "p") {
			return
		}
	}
}

func (m *model) endForm() {
	if m.has("template") {
		if m.scope("scope", "form") {
			m.imply("")
			m.until("form")
		}
		return
	}
	form := m.form
	m.form = nil
	if form != nil && m.scopeOf(form) {
		m.imply("")
		m.remove(form)
	}
}

func (m *model) anyEnd(name string) {
	for i := len(m.open) - 1; i >= 0; i-- {
		x := m.open[i]
		if x.is(name) {
			m.open = m.open[:i]
			return
		}
		if names.Special(x.ns, x.name) {
			return
		}
	}
}
