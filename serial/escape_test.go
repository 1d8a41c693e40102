package serial

import (
	"strings"
	"testing"
)

func mustEscape(t *testing.T, s, text, value string) {
	t.Helper()
	if got := Escape(s, false); got != text {
		t.Errorf("Escape(%q, false): %q, want %q", s, got, text)
	}
	if got := Escape(s, true); got != value {
		t.Errorf("Escape(%q, true): %q, want %q", s, got, value)
	}
}

func TestEscapeOfEachSign(t *testing.T) {
	for _, r := range []struct{ s, text, value string }{
		{"&", "&amp;", "&amp;"},
		{"\u00a0", "&nbsp;", "&nbsp;"},
		{`"`, `"`, "&quot;"},
		{"<", "&lt;", "<"},
		{">", "&gt;", ">"},
	} {
		mustEscape(t, r.s, r.text, r.value)
		mustEscape(t, r.s+r.s, r.text+r.text, r.value+r.value)
		mustEscape(t, "a"+r.s, "a"+r.text, "a"+r.value)
		mustEscape(t, r.s+"a", r.text+"a", r.value+"a")
		mustEscape(t, "é"+r.s+"\u20ac"+r.s+"\U0001f600", "é"+r.text+"\u20ac"+r.text+"\U0001f600", "é"+r.value+"\u20ac"+r.value+"\U0001f600")
		mustEscape(t, "\xff"+r.s+"\xff", "\xff"+r.text+"\xff", "\xff"+r.value+"\xff")
		mustEscape(t, "\xc2"+r.s+"\xc2", "\xc2"+r.text+"\xc2", "\xc2"+r.value+"\xc2")
		mustEscape(t, "\xa0"+r.s+"\xa0", "\xa0"+r.text+"\xa0", "\xa0"+r.value+"\xa0")
		mustEscape(t, "\xf0\x9f"+r.s+"\x98", "\xf0\x9f"+r.text+"\x98", "\xf0\x9f"+r.value+"\x98")
		mustEscape(t, "\x00"+r.s+"\r\n", "\x00"+r.text+"\r\n", "\x00"+r.value+"\r\n")
	}
}

func TestEscapeOfAllSigns(t *testing.T) {
	mustEscape(t, "", "", "")
	mustEscape(t, "&\u00a0\"<>", `&amp;&nbsp;"&lt;&gt;`, "&amp;&nbsp;&quot;<>")
	mustEscape(t, "><\"\u00a0&", `&gt;&lt;"&nbsp;&amp;`, "><&quot;&nbsp;&amp;")
	mustEscape(t, "a&b\u00a0c\"d<e>f", `a&amp;b&nbsp;c"d&lt;e&gt;f`, "a&amp;b&nbsp;c&quot;d<e>f")
	mustEscape(t, "&amp;&lt;&quot;&nbsp;", "&amp;amp;&amp;lt;&amp;quot;&amp;nbsp;", "&amp;amp;&amp;lt;&amp;quot;&amp;nbsp;")
}

func TestEscapeOfPiecesOfTheBlank(t *testing.T) {
	for _, s := range []string{"\xc2", "\xa0", "\xa0\xc2", "\xc2\xc2", "\xa0\xa0", "\xc2a\xa0", "\xc3\xa0", "\xc2\xa1", "\xc2\x9f", "\xe2\xa0\x80", "\xe0\xa0\xa0", "\xe2\x82\xa0", "\xc1\xa0", "\xf0\xa0\x80\xa0", "\ufffd", "\ufeff", "\u2007", "\u202f", " "} {
		mustEscape(t, s, s, s)
	}
	for _, s := range []string{"\xc2", "\xa0", "\xe2", "\xe2\x82", "\xf0\x9f\x98", "\xff", "\xed\xa0", "a", "é"} {
		mustEscape(t, s+"\xc2\xa0", s+"&nbsp;", s+"&nbsp;")
		if s != "\xc2" {
			mustEscape(t, "\xc2\xa0"+s, "&nbsp;"+s, "&nbsp;"+s)
		}
	}
	mustEscape(t, "\xc2\xa0\xa0", "&nbsp;\xa0", "&nbsp;\xa0")
	mustEscape(t, "\xc2\xa0\xc2", "&nbsp;\xc2", "&nbsp;\xc2")
}

// TestEscapeOfEveryByte has each byte alone, and between others.
func TestEscapeOfEveryByte(t *testing.T) {
	for b := range 256 {
		s := string([]byte{byte(b)})
		text, value := s, s
		switch b {
		case '&':
			text, value = "&amp;", "&amp;"
		case '"':
			value = "&quot;"
		case '<':
			text = "&lt;"
		case '>':
			text = "&gt;"
		}
		mustEscape(t, s, text, value)
		mustEscape(t, "a"+s+"b", "a"+text+"b", "a"+value+"b")
		if b != 0xa0 {
			mustEscape(t, "\xc2"+s, "\xc2"+text, "\xc2"+value)
		}
		if b != 0xc2 {
			mustEscape(t, s+"\xa0", text+"\xa0", value+"\xa0")
		}
	}
}

// TestEscapeOfEveryRune: each one but the signs is as it was.
func TestEscapeOfEveryRune(t *testing.T) {
	signs := "&\u00a0\"<>"
	var all strings.Builder
	for r := rune(0); r <= 0x10ffff; r++ {
		if !strings.ContainsRune(signs, r) {
			all.WriteRune(r)
		}
	}
	s := all.String()
	if Escape(s, false) != s || Escape(s, true) != s {
		t.Error("one that is no sign is altered")
	}
}

// replaced is Escape in the promise's words: "&" ahead of the others, whose names begin with it.
func replaced(s string, attr bool) string {
	s = strings.ReplaceAll(strings.ReplaceAll(s, "&", "&amp;"), "\u00a0", "&nbsp;")
	if attr {
		return strings.ReplaceAll(s, `"`, "&quot;")
	}
	return strings.ReplaceAll(strings.ReplaceAll(s, "<", "&lt;"), ">", "&gt;")
}

var pieces = []string{"&", "\u00a0", `"`, "<", ">", "'", "a", "é", "\u20ac", "\U0001f600", "\xc2", "\xa0", "\xe2\x82", "\xff", "\x00", " ", "\n", "\r", "&amp;", "&lt;", ";", "--", "]]>"}

func TestEscapeOfDrawnTexts(t *testing.T) {
	d := dice(23)
	for range 20000 {
		s := drawnText(&d, 12)
		mustEscape(t, s, replaced(s, false), replaced(s, true))
	}
}

func drawnText(d *dice, most int) string {
	s := ""
	for range d.draw(most) {
		s += d.of(pieces)
	}
	return s
}

func TestEscapeOfLongTexts(t *testing.T) {
	const long = 1 << 20
	plain := repeated(long, "aé'")
	mustBeLong := func(s, text, value string) {
		t.Helper()
		if Escape(s, false) != text || Escape(s, true) != value {
			t.Errorf("a long text that begins with %q", s[:8])
		}
	}
	mustBeLong(plain, plain, plain)
	mustBeLong(plain+"&", plain+"&amp;", plain+"&amp;")
	mustBeLong("<"+plain+"\u00a0"+plain+`"`, "&lt;"+plain+"&nbsp;"+plain+`"`, "<"+plain+"&nbsp;"+plain+"&quot;")
	mustBeLong(repeated(long, "&"), repeated(long, "&amp;"), repeated(long, "&amp;"))
	mustBeLong(repeated(long, `"`), repeated(long, `"`), repeated(long, "&quot;"))
	mustBeLong(repeated(long, "<>"), repeated(long, "&lt;&gt;"), repeated(long, "<>"))
	mustBeLong(repeated(long, "\u00a0"), repeated(long, "&nbsp;"), repeated(long, "&nbsp;"))
	mustBeLong(repeated(long, "\xc2"), repeated(long, "\xc2"), repeated(long, "\xc2"))
	mustBeLong(repeated(long, "\xa0"), repeated(long, "\xa0"), repeated(long, "\xa0"))
}
