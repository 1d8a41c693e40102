package context

import (
	"math"
	"strconv"
	"strings"
	"testing"

	"arbour/api"
	"arbour/names"
)

// modes are their names, the first of number 1.
const modes = "initial beforehtml beforehead inhead afterhead inbody intext intable intabletext intablebody inrow incell intemplate afterbody afterafterbody"

func TestRightByNamespaceAndName(t *testing.T) {
	for _, c := range []struct {
		ns   int
		name string
		want bool
	}{
		{api.HTML, "p", true}, {api.SVG, "p", true}, {0, "p", false}, {-1, "p", false}, {api.SVG + 1, "p", false},
		{math.MaxInt, "p", false}, {math.MinInt, "p", false}, {api.HTML + 256, "p", false}, {api.HTML + 1<<32, "p", false},
		{api.HTML, "", false}, {api.SVG, "", false}, {0, "", false},
		{api.HTML, "P", true}, {api.SVG, "foreignObject", true}, {api.HTML, "html", true}, {api.HTML, "template", true},
		{api.HTML, " ", true}, {api.SVG, "\x00", true}, {api.HTML, "\xff\xfe", true}, {api.HTML, "a b<>&", true}, {api.HTML, "é", true},
	} {
		for _, a := range [][]api.Attr{nil, {}, list("x=1"), list("x=1 y=1 z=1")} {
			said := strconv.Itoa(c.ns) + ":" + c.name + " with " + strconv.Itoa(len(a))
			mustBe(t, said, Right(api.Context{NS: c.ns, Name: c.name, Attrs: a}), c.want)
		}
		mustBe(t, c.name+" with two of one name", Right(api.Context{NS: c.ns, Name: c.name, Attrs: list("x=1 x=1")}), false)
	}
}

func TestRightByAttributes(t *testing.T) {
	for s, want := range map[string]bool{
		"":                true,
		"x=1":             true,
		"x":               true,
		"=1":              true,
		"x=1 y=1":         true,
		"x=1 y=1 z=1 w=1": true,
		"x=y y=x":         true,
		"x xx xxx":        true,
		"x= y= z=":        true,
		"p=1":             true,
		"x=1 x=1":         false,
		"x=1 x=2":         false,
		"x x":             false,
		"=1 =2":           false,
		"=1 x=1":          true,
		"x=1 y=1 x=1":     false,
		"x=1 y=1 x=2":     false,
		"y=1 x=1 x=2":     false,
		"x=1 x=2 y=1":     false,
		"x y z w x":       false,
		"w x y z x":       false,
		"x=1 x=2 x=3":     false,
		"x=1 y=1 y=1 x=1": false,
		"x=1 X=1":         true,
		"onClick onclick": true,
		"X x X":           false,
		"\xff=1 \xfe=1":   true,
		"\xff=1 \xff=2":   false,
		"é=1 e=1":         true,
		"é=1 é=2":         false,
		"\x00=1 \x00\x00": true,
	} {
		for _, ns := range []int{api.HTML, api.SVG} {
			mustBe(t, strconv.Quote(s), Right(api.Context{NS: ns, Name: "p", Attrs: list(s)}), want)
			mustBe(t, strconv.Quote(s)+" of no name", Right(api.Context{NS: ns, Attrs: list(s)}), false)
		}
		mustBe(t, strconv.Quote(s)+" of no namespace", Right(api.Context{Name: "p", Attrs: list(s)}), false)
	}
}

// TestRightDoesNotReadBehindTheEnd, nor ahead of the beginning.
func TestRightDoesNotReadBehindTheEnd(t *testing.T) {
	l := list("x=1 y=1 x=2 y=2 z=1")
	for _, c := range []struct {
		from, to int
		want     bool
	}{{0, 2, true}, {0, 3, false}, {1, 3, true}, {1, 4, false}, {2, 5, true}, {0, 0, true}, {0, 1, true}, {3, 3, true}} {
		said := strconv.Itoa(c.from) + " to " + strconv.Itoa(c.to)
		mustBe(t, said, Right(api.Context{NS: api.HTML, Name: "p", Attrs: l[c.from:c.to]}), c.want)
	}
}

func TestLexer(t *testing.T) {
	for name, want := range map[string]int{
		"title": api.Rcdata, "textarea": api.Rcdata,
		"script": api.Rawtext, "style": api.Rawtext, "xmp": api.Rawtext,
		"plaintext": api.Plaintext,
		"p":         api.Data, "html": api.Data, "template": api.Data, "pre": api.Data, "td": api.Data, "svg": api.Data, "iframe": api.Data,
		"noframes": api.Data, "listing": api.Data, "": api.Data, "titl": api.Data, "titles": api.Data, " title": api.Data, "desc": api.Data,
		"Title": api.Data, "TITLE": api.Data, "TextArea": api.Data, "SCRIPT": api.Data, "Style": api.Data, "XMP": api.Data,
		"PLAINTEXT": api.Data, "NoScript": api.Data, "NOSCRIPT": api.Data, "\xff": api.Data,
	} {
		for _, scripting := range []bool{false, true} {
			mustBe(t, name, Lexer(api.Context{NS: api.HTML, Name: name}, scripting), want)
			mustBe(t, name+" with attributes", Lexer(api.Context{NS: api.HTML, Name: name, Attrs: list("x x")}, scripting), want)
			mustBe(t, name+" of SVG", Lexer(api.Context{NS: api.SVG, Name: name}, scripting), api.Data)
			mustBe(t, name+" as names tells it", Lexer(api.Context{NS: api.HTML, Name: name}, scripting), names.Raw(name, scripting))
		}
	}
	mustBe(t, "noscript with scripting", Lexer(api.Context{NS: api.HTML, Name: "noscript"}, true), api.Rawtext)
	mustBe(t, "noscript without", Lexer(api.Context{NS: api.HTML, Name: "noscript"}, false), api.Data)
	mustBe(t, "noscript of SVG with scripting", Lexer(api.Context{NS: api.SVG, Name: "noscript"}, true), api.Data)
	mustBe(t, "noscript of SVG without", Lexer(api.Context{NS: api.SVG, Name: "noscript"}, false), api.Data)
}

// TestLexerOfNoNamespace: nothing is promised of it, but that it ends; nothing of HTML is.
func TestLexerOfNoNamespace(t *testing.T) {
	for _, ns := range []int{0, -1, none, math.MaxInt, math.MinInt} {
		for _, name := range []string{"title", "script", "plaintext", "noscript", "p", ""} {
			mustBe(t, name, Lexer(api.Context{NS: ns, Name: name}, true), api.Data)
		}
	}
}

func TestName(t *testing.T) {
	want := strings.Fields(modes)
	numbers := []int{Initial, BeforeHtml, BeforeHead, InHead, AfterHead, InBody, InText, InTable, InTableText, InTableBody, InRow, InCell, InTemplate, AfterBody, AfterAfterBody}
	mustBe(t, "how many", len(want), len(numbers))
	for i, m := range numbers {
		mustBe(t, "the number of "+want[i], m, i+1)
		mustBe(t, "the name of "+strconv.Itoa(m), Name(m), want[i])
	}
	for _, m := range []int{0, -1, -2, -15, AfterAfterBody + 1, 17, 255, 257, 1 + 1<<32, math.MaxInt, math.MinInt} {
		mustBe(t, "the name of "+strconv.Itoa(m), Name(m), "")
	}
}

func TestRunOfTheChapter(t *testing.T) {
	mustBe(t, "html, body, table, tr", Name(made(t, "html body table tr").reset("the run", nil, 0, true)), "inrow")
}

func TestExamplesOfTheChapter(t *testing.T) {
	mustBe(t, "Lexer(title)", Lexer(*part("title"), false), api.Rcdata)
	for _, head := range []bool{false, true} {
		mustBe(t, "html alone in the context td", made(t, "html").reset("example 2", part("td"), InTable, head), InBody)
	}
}
