package token

import (
	"math"
	"slices"
	"strconv"
	"strings"
	"testing"
	"unsafe"

	"arbour/api"
)

// list reads "a=1 b=2"; a name or a value may be empty.
func list(s string) []api.Attr {
	var l []api.Attr
	for _, one := range strings.Fields(s) {
		name, value, _ := strings.Cut(one, "=")
		l = append(l, api.Attr{Name: name, Value: value})
	}
	return l
}

func doctype(name string) api.Token { return api.Token{Kind: api.Doctype, Name: name} }

func start(name, attributes string) api.Token {
	return api.Token{Kind: api.Start, Name: name, Attrs: list(attributes)}
}

func selfStart(name, attributes string) api.Token {
	t := start(name, attributes)
	t.Self = true
	return t
}

func end(name string) api.Token { return api.Token{Kind: api.End, Name: name} }

func text(s string) api.Token { return api.Token{Kind: api.Text, Text: s} }

func comment(s string) api.Token { return api.Token{Kind: api.Comment, Text: s} }

func eof() api.Token { return api.Token{Kind: api.EOF} }

// show writes every field, whatever the Kind is.
func show(t api.Token) string {
	out := "{" + strconv.Itoa(t.Kind) + " " + strconv.Quote(t.Name) + " ["
	for _, a := range t.Attrs {
		out += strconv.Quote(a.Name) + "=" + strconv.Quote(a.Value) + " "
	}
	return out + "] " + strconv.FormatBool(t.Self) + " " + strconv.Quote(t.Text) + "}"
}

func showAll(l []api.Token) string {
	var out []string
	for _, t := range l {
		out = append(out, show(t))
	}
	return strings.Join(out, " ")
}

func mustRight(t *testing.T, x api.Token, want bool) {
	t.Helper()
	if got := Right(x); got != want {
		t.Errorf("Right(%s): %v", show(x), got)
	}
}

func mustText(t *testing.T, x api.Token, want string) {
	t.Helper()
	if got := Text(x); got != want {
		t.Errorf("Text(%s): %q, want %q", show(x), got, want)
	}
}

func mustSame(t *testing.T, a, b api.Token, want bool) {
	t.Helper()
	if Same(a, b) != want || Same(b, a) != want {
		t.Errorf("Same(%s, %s): %v, and turned round %v, want %v", show(a), show(b), Same(a, b), Same(b, a), want)
	}
}

func mustJoin(t *testing.T, l, want []api.Token) {
	t.Helper()
	if got := Join(l); showAll(got) != showAll(want) {
		t.Errorf("Join(%s): %s, want %s", showAll(l), showAll(got), showAll(want))
	}
}

func TestRunOfTheChapter(t *testing.T) {
	mustText(t, start("p", "a=1"), "<p a=1")
}

func TestExamplesOfTheChapter(t *testing.T) {
	mustRight(t, start("P", ""), false)
	mustJoin(t, []api.Token{text("a"), text("b")}, []api.Token{text("ab")})
}

// noKinds are 0, one past the last, one below 0, and others far away.
func noKinds() []int {
	return []int{0, api.EOF + 1, -1, 8, 255, 256 + api.Text, math.MaxInt, math.MinInt}
}

// withFields tells a token with an ordinary value in each field that is named by a letter: n, a, s, t.
func withFields(kind int, letters string) api.Token {
	x := api.Token{Kind: kind}
	for _, r := range letters {
		switch r {
		case 'n':
			x.Name = "p"
		case 'a':
			x.Attrs = list("a=1")
		case 's':
			x.Self = true
		case 't':
			x.Text = "x"
		}
	}
	return x
}

// someFields are all sets of fields, none and all among them.
func someFields() []string {
	return strings.Split(" n a s t na ns nt as at st nas nat nst ast nast", " ")
}

// P8.1: every Kind with every set of fields: those that it names, each other one, and several.
func TestRightOfEachSetOfFields(t *testing.T) {
	right := map[int][]string{
		api.Doctype: {"", "n"}, api.Start: {"n", "na", "ns", "nas"}, api.End: {"n"},
		api.Text: {"t"}, api.Comment: {"", "t"}, api.EOF: {""},
	}
	if len(someFields()) != 16 {
		t.Fatal("not all sets of fields")
	}
	for kind := api.Doctype; kind <= api.EOF; kind++ {
		for _, letters := range someFields() {
			mustRight(t, withFields(kind, letters), slices.Contains(right[kind], letters))
		}
	}
	for _, kind := range noKinds() {
		for _, letters := range someFields() {
			mustRight(t, withFields(kind, letters), false)
		}
	}
}

// P8.1, R4: a list without attributes is none, nil or not.
func TestRightOfEmptyLists(t *testing.T) {
	for _, none := range [][]api.Attr{nil, {}, make([]api.Attr, 0, 3), list("a=1")[:0]} {
		for _, x := range []api.Token{doctype("p"), start("p", ""), selfStart("p", ""), end("p"), text("x"), comment("x"), comment(""), eof()} {
			x.Attrs = none
			mustRight(t, x, true)
		}
		mustRight(t, api.Token{Attrs: none}, false)
	}
}

// mustName asks for a name whether tags may have it, and whether a Doctype may.
func mustName(t *testing.T, name string, tags, doctypes bool) {
	t.Helper()
	mustRight(t, start(name, ""), tags)
	mustRight(t, start(name, "a=1 b=2"), tags)
	mustRight(t, selfStart(name, ""), tags)
	mustRight(t, end(name), tags)
	mustRight(t, doctype(name), doctypes)
}

// P8.1: names that all three may have, and the shortest ones.
func TestRightNames(t *testing.T) {
	for _, name := range []string{"a", "z", "p", "html", "h1", "a1b2", "az09", "x-y", "svg:a", "a<b", "a\"'=", "a!", "a&amp;", "a\\", "a.", "a_", "foreignobject", "a\x00"} {
		mustName(t, name, true, true)
	}
}

// P8.1: a Doctype's name may be empty, a tag's not.
func TestRightOfEmptyNames(t *testing.T) { mustName(t, "", false, true) }

// P8.1: a capital at each place.
func TestRightOfCapitals(t *testing.T) {
	for r := 'A'; r <= 'Z'; r++ {
		for _, name := range []string{"@", "@bcd", "a@cd", "ab@d", "abc@", "@@", "1@", "a1@", "\u00e4@", "a\xFF@"} {
			mustName(t, strings.ReplaceAll(name, "@", string(r)), false, false)
		}
	}
	for _, name := range []string{"HTML", "foreignObject", "Html", "htmL"} {
		mustName(t, name, false, false)
	}
}

// P8.1: a name that begins with a Digit or another sign.
func TestRightOfBeginnings(t *testing.T) {
	for _, name := range []string{"0", "9", "1a", "-a", "_a", "<a", "!a", "?a", "@a", "[a", "`a", "{a", "=a", "\"a", "\x00a", "\u00e4", "\u00e4a", "\u03b1", "\uff41", "\u212a", "\u017f", "\U0001d41a", "\xFF", "\xFFa", "\xC3", "\xE1", "\xE1a", "\uFFFDa", "\u0301a"} {
		mustName(t, name, false, true)
	}
}

// P8.1: each sign that ends a name, at the beginning, in the midst, at the end, alone and twice.
func TestRightOfEndingSigns(t *testing.T) {
	for _, sign := range []string{" ", "\t", "\n", "\f", "\r", "/", ">"} {
		for _, name := range []string{"@", "@a", "@abc", "a@b", "ab@cd", "a@", "abc@", "@@", "a@@b", "a@b@", "\u00e4@", "a\u00e4@", "a\xFF@"} {
			mustName(t, strings.ReplaceAll(name, "@", sign), false, true)
		}
	}
}

// P8.1: what is like a Space or a capital elsewhere is none here, right UTF-8 or not.
func TestRightOfOtherSigns(t *testing.T) {
	for _, sign := range []string{"\v", "\x00", "\x1C", "\x85", "\xA0", "\u0085", "\u00a0", "\u1680", "\u2003", "\u2028", "\u3000", "\ufeff", "\u00c4", "\u0391", "\uff21", "\u212a", "\u0130", "\U00010400", "\u2044", "\u203a", "\uff0f", "\xC0\xAF", "\xC0\xBE", "\xE0\x80\xA0", "\xFF", "\xF0\x9F", "\xED\xA0\x80", "\uFFFD"} {
		for _, name := range []string{"a@", "a@b", "ab@@c"} {
			mustName(t, strings.ReplaceAll(name, "@", sign), true, true)
		}
	}
}

// P8.1: each byte as the first, as one in the midst and as the last of a name.
func TestRightOfEachByte(t *testing.T) {
	for c := range 256 {
		sign := string([]byte{byte(c)})
		small, capital := c >= 'a' && c <= 'z', c >= 'A' && c <= 'Z'
		ends := strings.Contains("\t\n\f\r />", sign)
		mustName(t, sign, small, !capital)
		mustName(t, sign+"bc", small, !capital)
		mustName(t, "b"+sign+"c", !capital && !ends, !capital)
		mustName(t, "bc"+sign, !capital && !ends, !capital)
	}
}

// P8.1: attributes without one name twice.
func TestRightAttributes(t *testing.T) {
	for _, attributes := range []string{"", "a", "a=1", "a=1 b=2", "a=1 b=1 c=1", "b= a= c=", "a=1 A=1", "a=b b=a", "P=1", "a=a", "1=2", "/=1 >=2 \"=3 <=4", "viewbox=1 viewBox=1", "\xFF=1 \xFE=1 \uFFFD=1", "\u00e9=1 e\u0301=1"} {
		mustRight(t, start("p", attributes), true)
		mustRight(t, selfStart("p", attributes), true)
		mustRight(t, start("P", attributes), false)
	}
	odd := []api.Attr{{Name: " "}, {Name: "  ", Value: " "}, {Name: "\t"}, {Name: "\n"}, {Name: "\x00"}, {Name: "a b", Value: "\xFF"}}
	mustRight(t, api.Token{Kind: api.Start, Name: "p", Attrs: odd}, true)
}

// P8.1: a name that is empty, at each place, and one that is there twice, side by side and apart, with the same and with other values.
func TestWrongAttributes(t *testing.T) {
	for _, attributes := range []string{
		"=", "=1", "=1 a=2", "a=1 =2", "a=1 = b=2", "a=1 b=2 =", "=1 =2", "a= =a",
		"a=1 a=1", "a=1 a=2", "a= a=", "a a=1", "a=1 b=2 a=1", "a=1 b=2 a=3", "b=1 a=1 a=1", "a=1 a=1 b=1", "a=1 b=2 c=3 d=4 a=5", "c=3 a=1 d=4 a=5 b=2", "a=1 b=2 b=3 a=4", "A=1 A=2", "\xFF=1 \xFF=2", "a=1 a=1 a=1",
	} {
		mustRight(t, start("p", attributes), false)
		mustRight(t, selfStart("p", attributes), false)
		mustRight(t, api.Token{Kind: api.Doctype, Attrs: list(attributes)}, false)
		mustRight(t, api.Token{Kind: api.End, Name: "p", Attrs: list(attributes)}, false)
	}
}

// P8.1: any text but the empty one.
func TestRightTexts(t *testing.T) {
	for _, s := range []string{" ", "\n", "x", "X", "\x00", "<p>", "-->", "\xFF", "\xED\xA0\x80", "\u00e4", "long " + strings.Repeat("x", 100)} {
		mustRight(t, text(s), true)
		mustRight(t, comment(s), true)
		for _, x := range []api.Token{doctype("p"), start("p", ""), end("p"), eof()} {
			x.Text = s
			mustRight(t, x, false)
		}
	}
	mustRight(t, text(""), false)
	mustRight(t, comment(""), true)
}

// P8.1, R5: what stands in the spare room of a list is no part of it.
func TestSpareRoomIsNotRead(t *testing.T) {
	whole := []api.Attr{{Name: "a", Value: "1"}, {Name: "a", Value: "2"}, {}}
	x, y := start("p", ""), start("p", "a=1")
	x.Attrs = whole[:1]
	mustRight(t, x, true)
	mustText(t, x, "<p a=1")
	mustSame(t, x, y, true)
	mustJoin(t, []api.Token{x}, []api.Token{y})
	l := []api.Token{text("a"), text("b"), text("c")}
	mustJoin(t, l[:1], []api.Token{text("a")})
	mustJoin(t, l[:2], []api.Token{text("ab")})
	mustJoin(t, l[:0], nil)
}

// P8.1: each pair of tokens with one of two values in each field.
func TestSameOfEachPair(t *testing.T) {
	var all []api.Token
	for _, kind := range append(noKinds(), api.Doctype, api.Start, api.End, api.Text, api.Comment, api.EOF) {
		for _, letters := range someFields() {
			all = append(all, withFields(kind, letters))
		}
	}
	for i, a := range all {
		for k, b := range all {
			mustSame(t, a, b, i == k)
		}
		mustSame(t, a, withFields(a.Kind, someFields()[i%16]), true)
	}
}

// P8.1: the same token but for one thing.
func TestSameButForOneThing(t *testing.T) {
	a := api.Token{Kind: api.Start, Name: "p", Attrs: list("a=1 b=2"), Self: true, Text: "x"}
	for i, turn := range []func(*api.Token){
		func(x *api.Token) { x.Kind = api.End }, func(x *api.Token) { x.Kind = 0 }, func(x *api.Token) { x.Kind = -api.Start },
		func(x *api.Token) { x.Name = "P" }, func(x *api.Token) { x.Name = "" }, func(x *api.Token) { x.Name = "pp" },
		func(x *api.Token) { x.Text = "X" }, func(x *api.Token) { x.Text = "" }, func(x *api.Token) { x.Text = "x " },
		func(x *api.Token) { x.Self = false }, func(x *api.Token) { x.Name, x.Text = x.Text, x.Name },
	} {
		b := a
		b.Attrs = list("a=1 b=2")
		mustSame(t, a, b, true)
		turn(&b)
		if Same(a, b) || Same(b, a) {
			t.Errorf("Same, case %d: %s", i, show(b))
		}
	}
	for _, other := range []string{"", "a=1", "b=2", "b=2 a=1", "a=1 b=3", "a=2 b=2", "a=2 b=1", "a=1 b=", "A=1 b=2", "a=1 c=2", "a=1 b=2 c=3", "a=1 b=2 b=2", "a=1 a=1 b=2", "a=1 =2", "1=a 2=b"} {
		b := a
		b.Attrs = list(other)
		mustSame(t, a, b, false)
		mustSame(t, b, b, true)
	}
}

// P8.1: texts are the same by their bytes.
func TestSameOfOddTexts(t *testing.T) {
	odd := []string{"", " ", "\x00", "a", "A", "\xFF", "\xFE", "\uFFFD", "\xC3", "\u00e9", "e\u0301", "\xED\xA0\x80", "\u212a", "k"}
	for i, s := range odd {
		for k, other := range odd {
			mustSame(t, text(s), text(other), i == k)
			mustSame(t, end(s), end(other), i == k)
			mustSame(t, start(s, s+"="+s), start(other, other+"="+other), i == k)
		}
	}
}

// P8.1, R4: nil and empty lists are the same.
func TestSameOfEmptyLists(t *testing.T) {
	lists := [][]api.Attr{nil, {}, make([]api.Attr, 0, 3), list("a=1")[:0]}
	for _, none := range lists {
		for _, other := range lists {
			mustSame(t, api.Token{Kind: api.Start, Name: "p", Attrs: none}, api.Token{Kind: api.Start, Name: "p", Attrs: other}, true)
			mustSame(t, api.Token{Attrs: none}, api.Token{Attrs: other}, true)
		}
		mustSame(t, api.Token{Attrs: none}, api.Token{Attrs: []api.Attr{{}}}, false)
	}
}

// P8.2: each Kind, with names and texts that are ordinary, empty, no right UTF-8, or have the signs that tell Kinds.
func TestTextOfEachKind(t *testing.T) {
	for _, s := range []string{"html", "", "x", "X", "a b", "\n", "\"", "!<//-.?", "\x00", "\xFF", "a\xC3", "\xED\xA0\x80", "\u00e4", "\uFFFD"} {
		mustText(t, doctype(s), "!"+s)
		mustText(t, start(s, ""), "<"+s)
		mustText(t, selfStart(s, ""), "<"+s+"/")
		mustText(t, end(s), "/"+s)
		mustText(t, text(s), "\""+s)
		mustText(t, comment(s), "-"+s)
	}
	mustText(t, eof(), ".")
}

// P8.2: attributes in order, each one of them, Right or not; Self behind all.
func TestTextOfAttributes(t *testing.T) {
	for _, c := range []struct{ name, attributes, want string }{
		{"p", "", "<p"}, {"p", "a=1", "<p a=1"}, {"p", "b=2 a=1", "<p b=2 a=1"}, {"p", "a=1 b=2 c=3 d=4", "<p a=1 b=2 c=3 d=4"},
		{"p", "a", "<p a="}, {"p", "a=", "<p a="}, {"p", "=1", "<p =1"}, {"p", "=", "<p ="}, {"p", "= = =", "<p = = ="}, {"p", "a= =1 b=2", "<p a= =1 b=2"},
		{"p", "a=1 a=1 a=2", "<p a=1 a=1 a=2"}, {"", "a=1", "< a=1"}, {"", "=", "< ="}, {"P", "A=B", "<P A=B"}, {"p", "a=b=c", "<p a=b=c"}, {"a/", "b=/ /=c", "<a/ b=/ /=c"},
		{"\xFF", "\xFE=\xC3 \u00e4=\uFFFD", "<\xFF \xFE=\xC3 \u00e4=\uFFFD"},
	} {
		mustText(t, start(c.name, c.attributes), c.want)
		mustText(t, selfStart(c.name, c.attributes), c.want+"/")
	}
	spaces := api.Token{Kind: api.Start, Name: "p", Attrs: []api.Attr{{Name: " ", Value: " \n"}, {Name: "a b", Value: "\"c\""}}}
	mustText(t, spaces, "<p  = \n a b=\"c\"")
}

// P8.2: what the Kind does not name is not told, and of another Kind nothing is.
func TestTextOfOtherFields(t *testing.T) {
	for _, letters := range someFields() {
		name, text, attributes, self := "", "", "", ""
		if strings.Contains(letters, "n") {
			name = "p"
		}
		if strings.Contains(letters, "t") {
			text = "x"
		}
		if strings.Contains(letters, "a") {
			attributes = " a=1"
		}
		if strings.Contains(letters, "s") {
			self = "/"
		}
		mustText(t, withFields(api.Doctype, letters), "!"+name)
		mustText(t, withFields(api.Start, letters), "<"+name+attributes+self)
		mustText(t, withFields(api.End, letters), "/"+name)
		mustText(t, withFields(api.Text, letters), "\""+text)
		mustText(t, withFields(api.Comment, letters), "-"+text)
		mustText(t, withFields(api.EOF, letters), ".")
		for _, kind := range noKinds() {
			mustText(t, withFields(kind, letters), "?")
		}
	}
}

// P8.2, R4: no tokens, nil or not.
func TestJoinOfNone(t *testing.T) {
	for _, none := range [][]api.Token{nil, {}, make([]api.Token, 0, 3)} {
		mustJoin(t, none, nil)
	}
}

// P8.2: one token of each Kind with every set of fields stays what it was, Right or not.
func TestJoinOfOne(t *testing.T) {
	for _, kind := range append(noKinds(), api.Doctype, api.Start, api.End, api.Text, api.Comment, api.EOF) {
		for _, letters := range someFields() {
			one := []api.Token{withFields(kind, letters)}
			mustJoin(t, one, one)
		}
	}
}

// P8.2: runs at the beginning, in the midst and at the end, of one and of several.
func TestJoinOfRuns(t *testing.T) {
	a, b, c, p, q := text("a"), text("b"), text("c"), start("p", "x=1 y=2"), end("q")
	ab, abc := text("ab"), text("abc")
	for _, x := range []struct{ l, want []api.Token }{
		{[]api.Token{a, b, c}, []api.Token{abc}},
		{[]api.Token{a, b, p}, []api.Token{ab, p}},
		{[]api.Token{p, a, b}, []api.Token{p, ab}},
		{[]api.Token{p, a, b, c, q}, []api.Token{p, abc, q}},
		{[]api.Token{a, p, b, q, c}, []api.Token{a, p, b, q, c}},
		{[]api.Token{a, b, p, a, b, c, q, b, b}, []api.Token{ab, p, abc, q, text("bb")}},
		{[]api.Token{p, p, a, b, q, q}, []api.Token{p, p, ab, q, q}},
		{[]api.Token{b, a}, []api.Token{text("ba")}},
		{[]api.Token{p, q}, []api.Token{p, q}},
	} {
		mustJoin(t, x.l, x.want)
	}
}

// P8.2: a token of every other Kind ends a run, and no other tokens become one.
func TestJoinAcrossEachKind(t *testing.T) {
	for _, kind := range append(noKinds(), api.Doctype, api.Start, api.End, api.Comment, api.EOF) {
		for _, letters := range someFields() {
			x := withFields(kind, letters)
			mustJoin(t, []api.Token{text("a"), x, text("b"), text("c"), x, x, text("d")}, []api.Token{text("a"), x, text("bc"), x, x, text("d")})
		}
	}
}

// P8.2: Texts that are empty belong to runs as others do, and a run of them is one that is empty.
func TestJoinOfEmptyTexts(t *testing.T) {
	e, a, b, p := text(""), text("a"), text("b"), start("p", "")
	for _, x := range []struct{ l, want []api.Token }{
		{[]api.Token{e}, []api.Token{e}}, {[]api.Token{e, e}, []api.Token{e}}, {[]api.Token{e, p, e, e}, []api.Token{e, p, e}},
		{[]api.Token{e, a}, []api.Token{a}}, {[]api.Token{a, e}, []api.Token{a}}, {[]api.Token{a, e, b}, []api.Token{text("ab")}}, {[]api.Token{p, e, a, e, p}, []api.Token{p, a, p}},
	} {
		mustJoin(t, x.l, x.want)
	}
}

// P8.2: bytes stand side by side as they are, though a rune may come of them.
func TestJoinOfOddTexts(t *testing.T) {
	mustJoin(t, []api.Token{text("\xC3"), text("\xA4")}, []api.Token{text("\u00e4")})
	mustJoin(t, []api.Token{text("\xFF"), text("\x00"), text("\xED\xA0"), text("\x80")}, []api.Token{text("\xFF\x00\xED\xA0\x80")})
	mustJoin(t, []api.Token{text("&"), text("amp;"), text("\r"), text("\n")}, []api.Token{text("&amp;\r\n")})
}

// P8.2, R10: Texts with other fields are Texts; of those fields the first one's are kept, as they are of a run of one.
func TestJoinOfTextsWithOtherFields(t *testing.T) {
	for _, letters := range someFields() {
		first, plain := withFields(api.Text, letters), text("y")
		want := first
		want.Text += "y"
		mustJoin(t, []api.Token{first, plain}, []api.Token{want})
		mustJoin(t, []api.Token{eof(), first, plain, first, eof()}, []api.Token{eof(), withText(want, want.Text+first.Text), eof()})
		mustJoin(t, []api.Token{plain, first}, []api.Token{text("y" + first.Text)})
	}
	a, b := start("a", "a=1"), start("b", "b=2")
	a.Kind, b.Kind = api.Text, api.Text
	mustJoin(t, []api.Token{a, b}, []api.Token{a})
	mustJoin(t, []api.Token{b, a}, []api.Token{b})
}

func withText(x api.Token, s string) api.Token {
	x.Text = s
	return x
}

// plainJoin is the promise's words, without regard to time.
func plainJoin(l []api.Token) []api.Token {
	var all []api.Token
	for i, x := range l {
		if i > 0 && x.Kind == api.Text && l[i-1].Kind == api.Text {
			all[len(all)-1].Text += x.Text
		} else {
			all = append(all, x)
		}
	}
	return all
}

// P8.2: every short list, against the promise's words; and joined again it is the same.
func TestJoinOfEachShortList(t *testing.T) {
	of := []api.Token{text("a"), text("\xFF"), text(""), start("p", "a=1 b=2"), comment("a"), {}}
	lists := [][]api.Token{nil}
	from := 0
	for range 6 {
		to := len(lists)
		for _, l := range lists[from:to] {
			for _, x := range of {
				lists = append(lists, append(slices.Clone(l), x))
			}
		}
		from = to
	}
	for _, l := range lists {
		want := plainJoin(l)
		mustJoin(t, l, want)
		mustJoin(t, want, want)
	}
}

// given are tokens with spare room behind them, and attributes with spare room behind those.
func given() []api.Token {
	var l []api.Token
	for _, kind := range []int{api.Text, api.Text, api.Start, api.Text, api.End, api.Comment, 0, api.Text, api.Text, api.Start, api.Text} {
		all := list("a=1 b=22 spare=3 room=4")
		l = append(l, api.Token{Kind: kind, Name: "name", Attrs: all[:2], Self: true, Text: "text"})
	}
	return l[:len(l)-2]
}

// whole writes all that is there of a list, its spare room and that of its attributes too.
func whole(l []api.Token) string {
	var all []api.Token
	for _, x := range l[:cap(l)] {
		x.Attrs = x.Attrs[:cap(x.Attrs)]
		all = append(all, x)
	}
	return showAll(all)
}

// fill writes into all that a list has, its spare room and that of its attributes too.
func fill(l []api.Token, with string) {
	l = l[:cap(l)]
	for i, x := range l {
		x.Attrs = x.Attrs[:cap(x.Attrs)]
		for k := range x.Attrs {
			x.Attrs[k] = api.Attr{Name: with, Value: with}
		}
		l[i] = api.Token{Kind: api.EOF, Name: with, Attrs: x.Attrs, Text: with}
	}
}

// R2: what is handed in is left as it was, its spare room and its attributes included.
func TestGivenTokensStay(t *testing.T) {
	l := given()
	before := whole(l)
	for _, x := range l {
		Right(x)
		Text(x)
		Same(x, x)
		Same(x, l[0])
	}
	Join(l)
	if got := whole(l); got != before {
		t.Errorf("%s, want %s", got, before)
	}
}

// R2: an answer is new memory, its spare room and its attributes too: neither what was handed in nor another answer is seen in it.
func TestAnswersAreNewMemory(t *testing.T) {
	for _, l := range [][]api.Token{given(), given()[:1], given()[2:3], slices.Clip(given()[2:7]), given()[:2]} {
		before, kept := whole(l), Join(l)
		want := whole(kept)
		fill(Join(l), "written")
		if got := whole(l); got != before {
			t.Errorf("what was handed in: %s, want %s", got, before)
		}
		fill(l, "turned")
		if got := whole(kept); got != want {
			t.Errorf("another answer: %s, want %s", got, want)
		}
	}
}

// R2: no two lists of one answer share memory, though those that were handed in do.
func TestListsOfOneAnswerAreApart(t *testing.T) {
	one := start("p", "a=1 b=2")
	got := Join([]api.Token{one, one, text("x"), one})
	fill(got[:1:1], "written")
	for _, at := range []int{1, 3} {
		mustSame(t, got[at], start("p", "a=1 b=2"), true)
	}
	got[1].Attrs = append(got[1].Attrs, api.Attr{Name: "more"})
	mustSame(t, got[3], start("p", "a=1 b=2"), true)
}

// places are the addresses of the texts of tokens; empty ones have none.
func places(l []api.Token) []*byte {
	var all []*byte
	for _, x := range l {
		texts := []string{x.Name, x.Text}
		for _, a := range x.Attrs {
			texts = append(texts, a.Name, a.Value)
		}
		for _, s := range texts {
			if s != "" {
				all = append(all, unsafe.StringData(s))
			}
		}
	}
	return all
}

// R2: nor do answers share texts with what was handed in.
func TestTextsAreNewMemory(t *testing.T) {
	l := append(given(), start("other", "c=33"), text("alone"), comment("remark"))
	from := places(l)
	for _, p := range places(Join(l)) {
		if slices.Contains(from, p) {
			t.Error("Join: a text is what was handed in")
		}
	}
	for _, x := range l {
		if slices.Contains(from, unsafe.StringData(Text(x))) {
			t.Errorf("Text(%s): it is what was handed in", show(x))
		}
	}
}

// R1: long lists of attributes end, and in time.
func TestLongListsOfAttributes(t *testing.T) {
	n := 1 << 17
	x := start("p", "")
	var want strings.Builder
	want.WriteString("<p")
	for i := range n {
		x.Attrs = append(x.Attrs, api.Attr{Name: strconv.Itoa(i), Value: "v"})
		want.WriteString(" " + strconv.Itoa(i) + "=v")
	}
	again := x
	again.Attrs = append(slices.Clone(x.Attrs), api.Attr{Name: strconv.Itoa(n - 1)})
	if !Right(x) || Right(again) || Text(x) != want.String() || !Same(x, x) || Same(x, again) {
		t.Error("a long list of attributes")
	}
	if got := Join([]api.Token{x, again}); len(got) != 2 || !Same(got[0], x) || !Same(got[1], again) {
		t.Error("Join of long lists of attributes")
	}
}

// R1: long runs, many runs and long texts end, and in time.
func TestLongRunsAndTexts(t *testing.T) {
	n := 1 << 18
	run := slices.Repeat([]api.Token{text("ab")}, n)
	if got := Join(run); len(got) != 1 || got[0].Text != strings.Repeat("ab", n) {
		t.Error("Join of a long run")
	}
	runs := slices.Repeat([]api.Token{text("a"), text("b"), eof()}, n)
	if got := Join(runs); len(got) != 2*n || !Same(got[2*n-2], text("ab")) || !Same(got[2*n-1], eof()) {
		t.Error("Join of many runs")
	}
	long := strings.Repeat("abcdefgh", n)
	if !Right(start(long, "")) || Right(start(long+">", "")) || Right(end(long+"A")) || !Right(doctype(long)) || Text(end(long)) != "/"+long || !Same(text(long), text(long)) || Same(text(long), text(long+"a")) {
		t.Error("long texts")
	}
}
