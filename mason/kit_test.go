package mason

import (
	"slices"
	"strconv"
	"strings"
	"testing"

	"arbour/api"
	"arbour/arena"
	"arbour/context"
	"arbour/replay"
	"arbour/scribe"
	"arbour/token"
	"arbour/tree"
)

// show is what is below t: a Text in quotes, a comment between !, a doctype between ?, a Content in braces, an element of SVG behind ~.
func show(t api.Tree) string {
	var b strings.Builder
	for _, k := range t.Kids {
		switch k.Kind {
		case api.TextNode:
			b.WriteString("'" + k.Text + "'")
		case api.CommentNode:
			b.WriteString("!" + k.Text + "!")
		case api.DoctypeNode:
			b.WriteString("?" + k.Name + "?")
		case api.Content:
			b.WriteString("{" + show(k) + "}")
		default:
			b.WriteString(label(k.NS, k.Name, k.Attrs) + "(" + show(k) + ")")
		}
	}
	return b.String()
}

func label(ns int, name string, l []api.Attr) string {
	out := name
	if ns == api.SVG {
		out = "~" + name
	}
	for _, a := range l {
		out += "." + a.Name
		if a.Value != "" {
			out += "=" + a.Value
		}
	}
	return out
}

// attrsOf reads attributes: "a=1 b".
func attrsOf(s string) []api.Attr {
	var l []api.Attr
	for _, f := range strings.Fields(s) {
		name, value, _ := strings.Cut(f, "=")
		l = append(l, api.Attr{Name: name, Value: value})
	}
	return l
}

// part reads a context: "td", "~g"; empty is none.
func part(s string) *api.Context {
	if s == "" {
		return nil
	}
	if name, ok := strings.CutPrefix(s, "~"); ok {
		return &api.Context{NS: api.SVG, Name: name}
	}
	return &api.Context{NS: api.HTML, Name: s}
}

func start(name string, l ...api.Attr) api.Token {
	return api.Token{Kind: api.Start, Name: name, Attrs: l}
}
func end(name string) api.Token     { return api.Token{Kind: api.End, Name: name} }
func text(s string) api.Token       { return api.Token{Kind: api.Text, Text: s} }
func comment(s string) api.Token    { return api.Token{Kind: api.Comment, Text: s} }
func doctype(name string) api.Token { return api.Token{Kind: api.Doctype, Name: name} }

var eof = api.Token{Kind: api.EOF}

// tokens reads a row of tokens: "!html <p,a=1,b <g,/ </p "x -comment ." with _ for a blank and ^ for an LF; ?? is one that is not right.
func tokens(s string) []api.Token {
	var l []api.Token
	for _, f := range strings.Fields(s) {
		rest := strings.NewReplacer("_", " ", "^", "\n").Replace(f[1:])
		switch f[0] {
		case '!':
			l = append(l, doctype(rest))
		case '<':
			if name, ok := strings.CutPrefix(rest, "/"); ok {
				l = append(l, end(name))
				continue
			}
			rest, self := strings.CutSuffix(rest, ",/")
			name, list, _ := strings.Cut(rest, ",")
			x := start(name, attrsOf(strings.ReplaceAll(list, ",", " "))...)
			x.Self = self
			l = append(l, x)
		case '"':
			l = append(l, text(rest))
		case '-':
			l = append(l, comment(rest))
		case '.':
			l = append(l, eof)
		case '?':
			l = append(l, api.Token{Kind: api.Text, Name: "x", Text: "x"})
		default:
			panic("no token: " + f)
		}
	}
	return l
}

func textOf(l []api.Token) string {
	var all []string
	for _, x := range l {
		all = append(all, token.Text(x))
	}
	return strings.Join(all, " ")
}

// engine makes a Mason of a document, or of a fragment in c.
func engine(t *testing.T, scripting bool, c *api.Context) *Mason {
	t.Helper()
	if c == nil {
		return New(scripting)
	}
	m, why := Part(scripting, *c)
	if why != api.OK {
		t.Fatalf("Part in %v: %v", *c, why)
	}
	return m
}

// writer makes a Scribe so.
func writer(t *testing.T, scripting bool, c *api.Context) *scribe.Scribe {
	t.Helper()
	if c == nil {
		return scribe.New(scripting)
	}
	s, why := scribe.Part(scripting, *c)
	if why != api.OK {
		t.Fatalf("scribe: Part in %v: %v", *c, why)
	}
	return s
}

// shown is the tree that m has built so far, with quirky ahead of it, if the document is.
func (m *Mason) shown() string { return shown(m.Arena()) }

func shown(a *arena.Arena) string {
	x, _ := a.Pure(0)
	if a.Quirky() {
		return "quirky " + show(x)
	}
	return show(x)
}

// teller is what either engine tells.
type teller interface {
	Mode() int
	Lexer() int
	Foreign() bool
	Done() bool
}

// stateOf tells all that an engine tells: the mode, what the lexer is told, ~ of foreign, ! of done.
func stateOf(e teller) string {
	out := context.Name(e.Mode())
	if l := e.Lexer(); l != 0 {
		out += ":" + strconv.Itoa(l)
	}
	if e.Foreign() {
		out += "~"
	}
	if e.Done() {
		out += "!"
	}
	return out
}

// both are a Mason, and a Scribe whose operations are done.
type both struct {
	t *testing.T
	m *Mason
	s *scribe.Scribe
	p *replay.Player
}

func newBoth(t *testing.T, scripting bool, c *api.Context) *both {
	t.Helper()
	return &both{t, engine(t, scripting, c), writer(t, scripting, c), replay.New()}
}

// feed feeds a token to both, and holds what they tell against each other.
func (b *both) feed(said string, x api.Token) {
	b.t.Helper()
	b.m.Feed(x)
	for _, o := range b.s.Feed(x) {
		if why := b.p.Do(o); why != api.OK {
			b.t.Fatalf("%s: behind %s: %+v: %v", said, token.Text(x), o, why)
		}
	}
	if got, want := stateOf(b.m), stateOf(b.s); got != want {
		b.t.Fatalf("%s: behind %s: %s, the scribe tells %s", said, token.Text(x), got, want)
	}
	if got, want := b.m.Arena().Quirky(), b.p.Arena().Quirky(); got != want {
		b.t.Fatalf("%s: behind %s: quirky %v, by the scribe %v", said, token.Text(x), got, want)
	}
}

// mustBeSame holds the trees against each other, node for node.
func (b *both) mustBeSame(said string) {
	b.t.Helper()
	mustBeSame(b.t, said, b.m.Arena(), b.p.Arena())
}

func mustBeSame(t *testing.T, said string, a, want *arena.Arena) {
	t.Helper()
	x, _ := a.Pure(0)
	y, _ := want.Pure(0)
	if !tree.Same(x, y) || a.Quirky() != want.Quirky() {
		t.Fatalf("%s:\n%s, by the scribe\n%s", said, shown(a), shown(want))
	}
	if !tree.Right(x) {
		t.Fatalf("%s: %s is not right", said, shown(a))
	}
}

// mustBeByScribe feeds l to both engines: all that they tell must be the same behind each token, and so must the trees at the end.
func mustBeByScribe(t *testing.T, scripting bool, c *api.Context, l []api.Token) {
	t.Helper()
	b := newBoth(t, scripting, c)
	said := textOf(l)
	if c != nil {
		said = "in " + label(c.NS, c.Name, nil) + ": " + said
	}
	for _, x := range l {
		b.feed(said, x)
	}
	b.mustBeSame(said)
}

// fed is the tree of tokens that are fed one by one.
func fed(t *testing.T, scripting bool, c *api.Context, l []api.Token) string {
	t.Helper()
	m := engine(t, scripting, c)
	for _, x := range l {
		m.Feed(x)
	}
	return m.shown()
}

// inTwo is l with each Text in two pieces, as often as it has places to cut it.
func inTwo(l []api.Token) [][]api.Token {
	var all [][]api.Token
	for i, x := range l {
		for at := range x.Text {
			if x.Kind == api.Text && token.Right(x) && at > 0 {
				one := slices.Concat(l[:i], []api.Token{text(x.Text[:at]), text(x.Text[at:])}, l[i+1:])
				all = append(all, one)
			}
		}
	}
	return all
}

// dice draws numbers.
type dice uint64

func (d *dice) draw(n int) int {
	*d = *d*6364136223846793005 + 1442695040888963407
	return int(uint64(*d) >> 33 % uint64(n))
}

func (d *dice) of(s string) string {
	l := strings.Fields(s)
	return l[d.draw(len(l))]
}
