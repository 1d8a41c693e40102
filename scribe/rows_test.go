package scribe

import (
	"slices"
	"strings"
	"testing"

	"arbour/api"
	"arbour/token"
)

// row is a row of tokens, and the tree that comes of them. Tokens behind ": " come within the body of a document that is not quirky, and so does that tree; those behind "td # " are of a fragment in td, whose html is left out, if it has no attributes.
type row struct{ in, want string }

// read tells a row's context, and its tokens.
func (r row) read() (*api.Context, []api.Token) {
	if c, rest, ok := strings.Cut(r.in, "# "); ok {
		return part(strings.TrimSpace(c)), tokens(rest)
	}
	return nil, tokens(strings.Replace(r.in, ": ", "!html <body ", 1))
}

// wanted is the row's tree as show has it.
func (r row) wanted() string {
	want := strings.ReplaceAll(r.want, "^", "\n")
	if inner, ok := strings.CutPrefix(want, ": "); ok {
		return "?html?html(head()body(" + inner + "))"
	}
	if strings.Contains(r.in, "# ") && !strings.HasPrefix(want, "html.") {
		return "html(" + want + ")"
	}
	return want
}

// fed is the tree of tokens that are fed one by one.
func fed(t *testing.T, scripting bool, c *api.Context, l []api.Token) string {
	t.Helper()
	p := newPlayer(t, scripting, c)
	for _, x := range l {
		p.feed(textOf(l), x)
	}
	if p.p.Arena().Quirky() {
		return "quirky " + p.shown()
	}
	return p.shown()
}

// inTwo is l with each Text in two pieces, as often as it has places to cut it.
func inTwo(l []api.Token) [][]api.Token {
	var all [][]api.Token
	for i, x := range l {
		for at := range x.Text {
			if x.Kind == api.Text && token.Right(x) && at > 0 {
				one := append(append([]api.Token{}, l[:i]...), text(x.Text[:at]), text(x.Text[at:]))
				all = append(all, append(one, l[i+1:]...))
			}
		}
	}
	return all
}

func mustShow(t *testing.T, scripting bool, rows []row) {
	t.Helper()
	for _, r := range rows {
		c, l := r.read()
		want := r.wanted()
		if got := fed(t, scripting, c, l); got != want {
			t.Errorf("%s:\n%s, want\n%s", r.in, got, want)
		}
		right := slices.DeleteFunc(slices.Clone(l), func(x api.Token) bool { return !token.Right(x) })
		for _, cut := range append(inTwo(l), right, token.Join(right)) {
			if got := fed(t, scripting, c, cut); got != want {
				t.Errorf("%s: %s:\n%s, want\n%s", r.in, textOf(cut), got, want)
			}
		}
		mustBeByWords(t, scripting, c, l)
	}
}
