package names

import (
	"math"
	"slices"
	"strings"
	"testing"
	"unsafe"

	"arbour/api"
)

// The chapter's lists, written out.
const (
	voids       = "area base br col embed hr img input link meta source wbr"
	formattings = "a b code em font i nobr small strong u"
	headings    = "h1 h2 h3 h4 h5 h6"
	blocks      = "address article blockquote center div dl main nav ol section ul"
	implieds    = "dd dt li p"
	thoroughs   = "dd dt li p tbody td tfoot th thead tr"
	points      = "foreignObject desc title"
	bounds      = "applet html marquee object table td template th"
	specials    = "address article blockquote center div dl main nav ol section ul h1 h2 h3 h4 h5 h6 area base br col embed hr img input link meta source wbr applet body button dd dt form head html li marquee object p plaintext pre script style table tbody td template textarea tfoot th thead title tr xmp"
	breakouts   = "b blockquote body br center code dd div dl dt em embed h1 h2 h3 h4 h5 h6 head hr i img li meta nobr ol p pre small strong table u ul"
	unfixed     = "foreignobject viewbox clippath lineargradient textpath preserveaspectratio"
	fixed       = "foreignObject viewBox clipPath linearGradient textPath preserveAspectRatio"
	raws        = "textarea title script style xmp noscript plaintext"
	// others are names of the standard that the chapter leaves out, and names that look like some of its own.
	others = "keygen track param svg math span select option optgroup caption colgroup iframe noembed noframes frame frameset listing dir menu details summary s strike tt big sub sup var ruby rb rp rt rtc hgroup aside header footer figure figcaption fieldset search image bgsound basefont annotation-xml mi mo mn ms mtext h h0 h7 h10 h11 h01 hh aa bb pp"
)

// oddNamespaces are neither HTML nor SVG.
var oddNamespaces = []int{0, 3, 4, -1, -2, 5, 255, 257, 258, 65537, 65538, 1<<32 + 1, 1<<32 + 2, -1<<32 + 1, math.MinInt, math.MinInt + 1, math.MinInt + 2, math.MaxInt}

func in(list, name string) bool {
	return slices.Contains(strings.Fields(list), name)
}

// known are all names that the chapter tells anywhere, each once.
func known() []string {
	all := strings.Fields(strings.Join([]string{voids, formattings, headings, blocks, thoroughs, points, bounds, specials, breakouts, unfixed, fixed, raws}, " "))
	slices.Sort(all)
	return slices.Compact(all)
}

// plainFix and plainRaw are the promise's words, by its lists.
func plainFix(name string) string {
	if i := slices.Index(strings.Fields(unfixed), name); i >= 0 {
		return strings.Fields(fixed)[i]
	}
	return name
}

func plainRaw(name string, scripting bool) int {
	switch {
	case in("textarea title", name):
		return api.Rcdata
	case in("script style xmp", name), scripting && name == "noscript":
		return api.Rawtext
	case name == "plaintext":
		return api.Plaintext
	}
	return api.Data
}

func mustBe(t *testing.T, what, name string, got, want bool) {
	t.Helper()
	if got != want {
		t.Errorf("%s(%q): %v, want %v", what, name, got, want)
	}
}

func mustBeOf(t *testing.T, what string, ns int, name string, got, want bool) {
	t.Helper()
	if got != want {
		t.Errorf("%s(%d, %q): %v, want %v", what, ns, name, got, want)
	}
}

func mustFix(t *testing.T, name, want string) {
	t.Helper()
	if got := Fix(name); got != want {
		t.Errorf("Fix(%q): %q, want %q", name, got, want)
	}
}

func mustRaw(t *testing.T, name string, scripting bool, want int) {
	t.Helper()
	if got := Raw(name, scripting); got != want {
		t.Errorf("Raw(%q, %v): %d, want %d", name, scripting, got, want)
	}
}

// mustAll asks everything of a name, against the lists.
func mustAll(t *testing.T, name string) {
	t.Helper()
	mustBe(t, "Void", name, Void(name), in(voids, name))
	mustBe(t, "Formatting", name, Formatting(name), in(formattings, name))
	mustBe(t, "Heading", name, Heading(name), in(headings, name))
	mustBe(t, "Block", name, Block(name), in(blocks, name))
	mustBe(t, "Implied", name, Implied(name), in(implieds, name))
	mustBe(t, "Thorough", name, Thorough(name), in(thoroughs, name))
	mustBe(t, "Breakout", name, Breakout(name), in(breakouts, name))
	mustBeOf(t, "Special", api.HTML, name, Special(api.HTML, name), in(specials, name))
	mustBeOf(t, "Bound", api.HTML, name, Bound(api.HTML, name), in(bounds, name))
	mustBeOf(t, "Point", api.HTML, name, Point(api.HTML, name), false)
	mustBeOf(t, "Special", api.SVG, name, Special(api.SVG, name), in(points, name))
	mustBeOf(t, "Bound", api.SVG, name, Bound(api.SVG, name), in(points, name))
	mustBeOf(t, "Point", api.SVG, name, Point(api.SVG, name), in(points, name))
	for _, ns := range oddNamespaces {
		mustBeOf(t, "Special", ns, name, Special(ns, name), false)
		mustBeOf(t, "Bound", ns, name, Bound(ns, name), false)
		mustBeOf(t, "Point", ns, name, Point(ns, name), false)
	}
	mustFix(t, name, plainFix(name))
	mustRaw(t, name, false, plainRaw(name, false))
	mustRaw(t, name, true, plainRaw(name, true))
}

// mustNone asks everything of a text that is no name of any kind.
func mustNone(t *testing.T, name string) {
	t.Helper()
	if slices.Contains(known(), name) {
		t.Fatalf("%q is a name", name)
	}
	mustAll(t, name)
	mustFix(t, name, name)
	mustRaw(t, name, false, api.Data)
	mustRaw(t, name, true, api.Data)
}

func TestRunOfTheChapter(t *testing.T) {
	mustBeOf(t, "Special", api.HTML, "p", Special(api.HTML, "p"), true)
	mustBeOf(t, "Special", api.SVG, "title", Special(api.SVG, "title"), true)
}

func TestExamplesOfTheChapter(t *testing.T) {
	mustBe(t, "Void", "keygen", Void("keygen"), false)
	mustBeOf(t, "Bound", api.SVG, "table", Bound(api.SVG, "table"), false)
}

// The lists above are as long as the chapter's, so that a slip in one of them is seen.
func TestListsOfTheChapter(t *testing.T) {
	for list, want := range map[string]int{
		voids: 12, formattings: 10, headings: 6, blocks: 11, implieds: 4, thoroughs: 10, points: 3, bounds: 8,
		specials: 11 + 6 + 12 + 27, breakouts: 33, unfixed: 6, fixed: 6, raws: 7,
	} {
		l := strings.Fields(list)
		slices.Sort(l)
		if n := len(slices.Compact(l)); n != want {
			t.Errorf("%d names, want %d: %s", n, want, list)
		}
	}
}

// P6.1, P6.2: each function of each name of its own list.
func TestEachKindOfItsOwn(t *testing.T) {
	for list, is := range map[string]func(string) bool{
		voids: Void, formattings: Formatting, headings: Heading, blocks: Block, implieds: Implied, thoroughs: Thorough, breakouts: Breakout,
	} {
		for _, name := range strings.Fields(list) {
			if !is(name) {
				t.Errorf("%q is none of %s", name, list)
			}
		}
	}
}

// P6.1, P6.2: each function of each name of the chapter, under each namespace.
func TestEachOfEachName(t *testing.T) {
	for _, name := range known() {
		mustAll(t, name)
	}
}

// P6.1: names that stand in more than one list, and in fewer than might be thought.
func TestNamesOfSeveralKinds(t *testing.T) {
	mustBeOf(t, "Special", api.HTML, "foreignObject", Special(api.HTML, "foreignObject"), false)
	mustBeOf(t, "Special", api.HTML, "desc", Special(api.HTML, "desc"), false)
	mustBeOf(t, "Special", api.HTML, "title", Special(api.HTML, "title"), true)
	mustBeOf(t, "Bound", api.HTML, "title", Bound(api.HTML, "title"), false)
	mustBeOf(t, "Bound", api.SVG, "title", Bound(api.SVG, "title"), true)
	mustBeOf(t, "Point", api.SVG, "foreignobject", Point(api.SVG, "foreignobject"), false)
	mustBeOf(t, "Special", api.SVG, "p", Special(api.SVG, "p"), false)
	mustBeOf(t, "Special", api.SVG, "br", Special(api.SVG, "br"), false)
	mustBeOf(t, "Special", api.HTML, "a", Special(api.HTML, "a"), false)
	mustBeOf(t, "Special", api.HTML, "noscript", Special(api.HTML, "noscript"), false)
	mustBe(t, "Block", "p", Block("p"), false)
	mustBe(t, "Implied", "td", Implied("td"), false)
	mustBe(t, "Breakout", "font", Breakout("font"), false)
	mustBe(t, "Breakout", "a", Breakout("a"), false)
	mustBe(t, "Breakout", "h6", Breakout("h6"), true)
}

// P6.2: what is fixed, what is already so, and what needs none.
func TestFix(t *testing.T) {
	mustFix(t, "foreignobject", "foreignObject")
	mustFix(t, "viewbox", "viewBox")
	mustFix(t, "clippath", "clipPath")
	mustFix(t, "lineargradient", "linearGradient")
	mustFix(t, "textpath", "textPath")
	mustFix(t, "preserveaspectratio", "preserveAspectRatio")
	for _, name := range strings.Fields(fixed) {
		mustFix(t, name, name)
	}
	for _, name := range []string{"", "svg", "g", "div", "title", "desc", "FOREIGNOBJECT", "ForeignObject", "ViewBox", "viewboX", "radialgradient", "fegaussianblur", "attributename", "definitionurl"} {
		mustFix(t, name, name)
	}
}

// R2: an answer shares no memory with what was handed in.
func TestFixIsNewMemory(t *testing.T) {
	for _, name := range []string{"div", "viewBox", "viewbox", "\xFF\xFE"} {
		given := strings.Clone(name)
		got := Fix(given)
		if unsafe.StringData(got) == unsafe.StringData(given) {
			t.Errorf("Fix(%q) hands out what it was given", name)
		}
	}
	mustFix(t, "", "")
}

// P6.2: Raw written out; scripting tells just of noscript.
func TestRaw(t *testing.T) {
	for name, want := range map[string]int{
		"textarea": api.Rcdata, "title": api.Rcdata, "script": api.Rawtext, "style": api.Rawtext, "xmp": api.Rawtext, "plaintext": api.Plaintext,
		"div": api.Data, "": api.Data, "iframe": api.Data, "noembed": api.Data, "noframes": api.Data, "pre": api.Data, "listing": api.Data, "template": api.Data,
	} {
		mustRaw(t, name, false, want)
		mustRaw(t, name, true, want)
	}
	mustRaw(t, "noscript", false, api.Data)
	mustRaw(t, "noscript", true, api.Rawtext)
}

// P6.1, P6.2: names that the chapter leaves out are of no kind.
func TestNamesOfNoKind(t *testing.T) {
	for _, name := range strings.Fields(others) {
		mustNone(t, name)
	}
}

// P6.1, P6.2: capitals are told apart: a name in other ones is one just if the chapter has it so.
func TestInOtherCapitals(t *testing.T) {
	for _, name := range known() {
		mustAll(t, strings.ToUpper(name))
		mustAll(t, strings.ToLower(name))
		for i := range name {
			if c := name[i] | 0x20; c >= 'a' && c <= 'z' {
				mustAll(t, name[:i]+string(name[i]^0x20)+name[i+1:])
			}
		}
	}
	for _, name := range []string{"BR", "Br", "bR", "DIV", "H1", "P", "Td", "TITLE", "Script", "FOREIGNOBJECT", "ForeignObject", "foreignOBJECT", "VIEWBOX", "PlainText", "NOSCRIPT"} {
		mustNone(t, name)
	}
}

// P6.1, P6.2: a blank or a letter more at either end, or one less.
func TestMoreOrLessAtEitherEnd(t *testing.T) {
	for _, name := range known() {
		for _, more := range []string{" ", "\t", "\n", "\f", "\r", "\x00", "/", ">", "a", "b", "d", "h", "l", "r", "s", "t", "u", "z", "1", "6", "-", ":", "\u00a0", "\u00e9"} {
			mustAll(t, name+more)
			mustAll(t, more+name)
			mustAll(t, more+name+more)
		}
		mustAll(t, name[1:])
		mustAll(t, name[:len(name)-1])
		mustAll(t, name+name)
	}
	for _, name := range []string{" p", "p ", "\tdiv", "div\n", "tablet", "stable", "tabl", "able", "viewbo", "iewbox", "titles", "itle", "svg:title", "noscript ", " noscript"} {
		mustNone(t, name)
	}
}

// P6.1, P6.2, R1, R5: the empty text, and texts that are no right UTF-8.
func TestWrongTexts(t *testing.T) {
	for _, name := range []string{"", " ", "\x00", "\xFF", "\x80", "\xC3", "\xE2\x88", "\xED\xA0\x80", "\xF4\x90\x80\x80", "\uFFFD", "\uFEFF", "\xC1\xB0", "\uFF50"} {
		mustNone(t, name)
		for _, real := range known() {
			mustAll(t, real+name)
			mustAll(t, name+real)
			mustAll(t, real[:1]+name+real[1:])
		}
	}
	for _, name := range []string{"p\xFF", "\xFFp", "di\x80v", "titl\xC3", "viewbox\xFF", "view\xFFbox", "\xEF\xBB\xBFp", "\u017fmall", "lin\u212a"} {
		mustNone(t, name)
	}
}

// P6.1, P6.2: every text of up to three small letters, and of those with a digit, against the lists.
func TestShortTexts(t *testing.T) {
	from := "abcdefghijklmnopqrstuvwxyz016"
	short := map[string]int{}
	for _, name := range known() {
		short[name]++
	}
	ask := func(name string) {
		if short[name] > 0 {
			return
		}
		if Void(name) || Formatting(name) || Heading(name) || Block(name) || Implied(name) || Thorough(name) || Breakout(name) ||
			Special(api.HTML, name) || Bound(api.HTML, name) || Point(api.SVG, name) || Special(api.SVG, name) || Bound(api.SVG, name) ||
			Fix(name) != name || Raw(name, true) != api.Data || Raw(name, false) != api.Data {
			t.Errorf("%q is of a kind", name)
		}
	}
	for _, a := range from {
		ask(string(a))
		for _, b := range from {
			ask(string(a) + string(b))
			for _, c := range from {
				ask(string(a) + string(b) + string(c))
			}
		}
	}
}

// R1: long texts end, and in time.
func TestLong(t *testing.T) {
	long := strings.Repeat("foreignobject", 1<<18)
	mustNone(t, long)
	mustNone(t, strings.Repeat("p", 1<<20))
	mustNone(t, "title"+strings.Repeat(" ", 1<<20))
	if Fix(long) != long {
		t.Error("a long text is not itself")
	}
}
