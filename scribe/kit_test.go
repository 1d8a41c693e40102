package scribe

import (
	"strconv"
	"strings"
	"testing"

	"arbour/api"
	"arbour/arena"
	"arbour/context"
	"arbour/replay"
	"arbour/token"
)

// show is what is below t: a Text in quotes, a comment between !, a doctype between ?, a Content in braces, an element of SVG behind ~.
func show(t api.Tree) string {
	var b strings.Builder
	for _, k := range t.Kids {
		switch k.Kind {
		case api.TextNode:
			b.WriteString("'" + k.Text + "'")
		case api.CommentNode:
			b.WriteString("!" + k.Text + "!")
		case api.DoctypeNode:
			b.WriteString("?" + k.Name + "?")
		case api.Content:
			b.WriteString("{" + show(k) + "}")
		default:
			b.WriteString(label(k.NS, k.Name, k.Attrs) + "(" + show(k) + ")")
		}
	}
	return b.String()
}

func label(ns int, name string, l []api.Attr) string {
	out := name
	if ns == api.SVG {
		out = "~" + name
	}
	for _, a := range l {
		out += "." + a.Name
		if a.Value != "" {
			out += "=" + a.Value
		}
	}
	return out
}

// showNode is show of the model's tree.
func showNode(n *node) string {
	var b strings.Builder
	for _, k := range n.kids {
		switch k.kind {
		case api.TextNode:
			b.WriteString("'" + k.text + "'")
		case api.CommentNode:
			b.WriteString("!" + k.text + "!")
		case api.DoctypeNode:
			b.WriteString("?" + k.name + "?")
		case api.Content:
			b.WriteString("{" + showNode(k) + "}")
		default:
			b.WriteString(label(k.ns, k.name, k.attrs) + "(" + showNode(k) + ")")
		}
	}
	return b.String()
}

// attrsOf reads attributes: "a=1 b".
func attrsOf(s string) []api.Attr {
	var l []api.Attr
	for _, f := range strings.Fields(s) {
		name, value, _ := strings.Cut(f, "=")
		l = append(l, api.Attr{Name: name, Value: value})
	}
	return l
}

// part reads a context: "td", "~g"; empty is none.
func part(s string) *api.Context {
	if s == "" {
		return nil
	}
	if name, ok := strings.CutPrefix(s, "~"); ok {
		return &api.Context{NS: api.SVG, Name: name}
	}
	return &api.Context{NS: api.HTML, Name: s}
}

func start(name string, l ...api.Attr) api.Token {
	return api.Token{Kind: api.Start, Name: name, Attrs: l}
}
func end(name string) api.Token     { return api.Token{Kind: api.End, Name: name} }
func text(s string) api.Token       { return api.Token{Kind: api.Text, Text: s} }
func comment(s string) api.Token    { return api.Token{Kind: api.Comment, Text: s} }
func doctype(name string) api.Token { return api.Token{Kind: api.Doctype, Name: name} }

var eof = api.Token{Kind: api.EOF}

// tokens reads a row of tokens: "!html <p,a=1,b <g,/ </p "x -comment ." with _ for a blank and ^ for an LF; ?? is one that is not right.
func tokens(s string) []api.Token {
	var l []api.Token
	for _, f := range strings.Fields(s) {
		rest := strings.NewReplacer("_", " ", "^", "\n").Replace(f[1:])
		switch f[0] {
		case '!':
			l = append(l, doctype(rest))
		case '<':
			if name, ok := strings.CutPrefix(rest, "/"); ok {
				l = append(l, end(name))
				continue
			}
			rest, self := strings.CutSuffix(rest, ",/")
			name, list, _ := strings.Cut(rest, ",")
			x := start(name, attrsOf(strings.ReplaceAll(list, ",", " "))...)
			x.Self = self
			l = append(l, x)
		case '"':
			l = append(l, text(rest))
		case '-':
			l = append(l, comment(rest))
		case '.':
			l = append(l, eof)
		case '?':
			l = append(l, api.Token{Kind: api.Text, Name: "x", Text: "x"})
		default:
			panic("no token: " + f)
		}
	}
	return l
}

// engine makes a Scribe of a document, or of a fragment in c.
func engine(t *testing.T, scripting bool, c *api.Context) *Scribe {
	t.Helper()
	if c == nil {
		return New(scripting)
	}
	s, why := Part(scripting, *c)
	if why != api.OK {
		t.Fatalf("Part in %v: %v", *c, why)
	}
	return s
}

// player does what a Scribe answers.
type player struct {
	t *testing.T
	s *Scribe
	p *replay.Player
}

func newPlayer(t *testing.T, scripting bool, c *api.Context) *player {
	t.Helper()
	return &player{t, engine(t, scripting, c), replay.New()}
}

// feed feeds a token, and does the operations that come of it.
func (p *player) feed(said string, x api.Token) {
	p.t.Helper()
	for _, o := range p.s.Feed(x) {
		if why := p.p.Do(o); why != api.OK {
			p.t.Fatalf("%s: behind %s: %+v: %v", said, token.Text(x), o, why)
		}
	}
}

func (p *player) shown() string { return shown(p.p.Arena()) }

func shown(a *arena.Arena) string {
	x, _ := a.Pure(0)
	return show(x)
}

// state tells all that a Scribe tells: the mode, what the lexer is told, ~ of foreign, ! of done.
func (p *player) state() string {
	out := context.Name(p.s.Mode())
	if l := p.s.Lexer(); l != 0 {
		out += ":" + strconv.Itoa(l)
	}
	if p.s.Foreign() {
		out += "~"
	}
	if p.s.Done() {
		out += "!"
	}
	return out
}

// state is that of the model.
func (m *model) state() string {
	out := strings.ToLower(m.mode)
	if m.told != 0 {
		out += ":" + strconv.Itoa(m.told)
	}
	if ns, _ := m.adjusted(); ns == api.SVG {
		out += "~"
	}
	if m.done {
		out += "!"
	}
	return out
}

// built does all operations, and tells the tree, and whether the document is quirky.
func built(t *testing.T, said string, l []api.Op) (string, bool) {
	t.Helper()
	a, n, why := replay.Do(l)
	if why != api.OK {
		t.Fatalf("%s: operation %d of %d, %+v: %v", said, n, len(l), l[n], why)
	}
	return shown(a), a.Quirky()
}

func textOf(l []api.Token) string {
	var all []string
	for _, x := range l {
		all = append(all, token.Text(x))
	}
	return strings.Join(all, " ")
}

// dice draws numbers.
type dice uint64

func (d *dice) draw(n int) int {
	*d = *d*6364136223846793005 + 1442695040888963407
	return int(uint64(*d) >> 33 % uint64(n))
}

func (d *dice) of(s string) string {
	l := strings.Fields(s)
	return l[d.draw(len(l))]
}
