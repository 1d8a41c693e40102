package mason

import (
	"slices"
	"strings"
	"testing"

	"arbour/api"
	"arbour/token"
)

// row is a row of tokens, and the tree that comes of them. Tokens behind ": " come within the body of a document that is not quirky, and so does that tree; those behind "td # " are of a fragment in td, whose html is left out, if it has no attributes.
type row struct{ in, want string }

// read tells a row's context, and its tokens.
func (r row) read() (*api.Context, []api.Token) {
	if c, rest, ok := strings.Cut(r.in, "# "); ok {
		return part(strings.TrimSpace(c)), tokens(rest)
	}
	return nil, tokens(strings.Replace(r.in, ": ", "!html <body ", 1))
}

// wanted is the row's tree as show has it.
func (r row) wanted() string {
	want := strings.ReplaceAll(r.want, "^", "\n")
	if inner, ok := strings.CutPrefix(want, ": "); ok {
		return "?html?html(head()body(" + inner + "))"
	}
	if strings.Contains(r.in, "# ") && !strings.HasPrefix(want, "html.") {
		return "html(" + want + ")"
	}
	return want
}

func mustShow(t *testing.T, scripting bool, rows []row) {
	t.Helper()
	for _, r := range rows {
		c, l := r.read()
		want := r.wanted()
		if got := fed(t, scripting, c, l); got != want {
			t.Errorf("%s:\n%s, want\n%s", r.in, got, want)
		}
		right := slices.DeleteFunc(slices.Clone(l), func(x api.Token) bool { return !token.Right(x) })
		for _, cut := range append(inTwo(l), right, token.Join(right)) {
			if got := fed(t, scripting, c, cut); got != want {
				t.Errorf("%s: %s:\n%s, want\n%s", r.in, textOf(cut), got, want)
			}
		}
		mustBeByScribe(t, scripting, c, l)
	}
}
