package serial

import (
	"slices"
	"strings"
	"testing"
	"unsafe"

	"arbour/api"
	"arbour/tree"
)

// scene has nodes of all kinds, each list with room behind it.
func scene() api.Tree {
	return roomy(doc(doctype("html"), comment("c"), el("html",
		el("script", text("<a>"), el("b", text("<"))),
		with(el("p", text("a plain text that is as it is"), el("br", text("x")), doc(text("y"))), "a", "&", "b", "plain"),
		el("template", text("out"), content(text("in"), el("i")), comment("out")),
		svg("template", text("&")), api.Tree{Kind: 9, Kids: []api.Tree{text("z")}})))
}

const (
	sceneText = "<!DOCTYPE html><!--c--><html><script><a><b>&lt;</b></script>" +
		`<p a="&amp;" b="plain">a plain text that is as it is<br></p>` +
		"<template>in<i></i></template><template>&amp;</template></html>"
)

// roomy is t with something in the spare room behind each of its lists.
func roomy(t api.Tree) api.Tree {
	kids := make([]api.Tree, 0, len(t.Kids)+2)
	for _, kid := range t.Kids {
		kids = append(kids, roomy(kid))
	}
	attributes := append(make([]api.Attr, 0, len(t.Attrs)+2), t.Attrs...)
	t.Kids = append(kids, el("spare"), text("spare"))[:len(kids)]
	t.Attrs = append(attributes, api.Attr{Name: "spare", Value: "1"}, api.Attr{Name: "spare", Value: "2"})[:len(attributes)]
	return t
}

// withRoom is t with what is in the spare room of its lists, too.
func withRoom(t api.Tree) api.Tree {
	t.Attrs = slices.Clone(t.Attrs[:cap(t.Attrs)])
	var kids []api.Tree
	for _, kid := range t.Kids[:cap(t.Kids)] {
		kids = append(kids, withRoom(kid))
	}
	t.Kids = kids
	return t
}

func TestTreesStay(t *testing.T) {
	x := scene()
	was := withRoom(x)
	must(t, x, sceneText)
	for _, kid := range x.Kids {
		Inner(kid, true)
		Text(kid)
	}
	if !tree.Same(withRoom(x), was) {
		t.Errorf("it was %s and has become %s", brief(was), brief(withRoom(x)))
	}
	d := dice(5)
	for range 3000 {
		x := roomy(drawnTree(&d, 4))
		was := withRoom(x)
		mustBe(t, x, innerByWords(x, false), innerByWords(x, true))
		if !tree.Same(withRoom(x), was) {
			t.Fatalf("it was %s and has become %s", brief(was), brief(withRoom(x)))
		}
	}
}

// TestTreesThatAreTurned: nothing of a tree is kept in an answer, and nothing of it is seen in a later one.
func TestTreesThatAreTurned(t *testing.T) {
	x := scene()
	got := Text(x)
	for i := range x.Kids {
		x.Kids[i] = text("turned")
	}
	if got != sceneText {
		t.Errorf("%q", got)
	}
	must(t, x, "turnedturnedturned")
	must(t, scene(), sceneText)
}

// begins tells where the bytes of s lie.
func begins(s string) *byte { return unsafe.StringData(s) }

// within tells whether the bytes of part lie in those of whole.
func within(part, whole string) bool {
	from, at := uintptr(unsafe.Pointer(begins(whole))), uintptr(unsafe.Pointer(begins(part)))
	return at >= from && at < from+uintptr(len(whole))
}

func TestAnswersAreNewMemory(t *testing.T) {
	// Built as the test runs, so that nothing is a constant.
	s := strings.Repeat("plain ", 50)
	for _, attr := range []bool{false, true} {
		if one, two := Escape(s, attr), Escape(s, attr); within(one, s) || within(two, s) || within(one, two) {
			t.Error("Escape of a plain text is that text")
		}
	}
	for _, x := range []api.Tree{el("p", text(s)), el("script", text(s)), content(text(s)), el("p", text(""), text(s), text(""))} {
		for _, scripting := range []bool{false, true} {
			one, two := Inner(x, scripting), Inner(x, scripting)
			if one != s || two != s || within(one, s) || within(two, s) || within(one, two) {
				t.Error("Inner of one plain text is that text")
			}
		}
		if within(Text(x), s) {
			t.Error("Text of one plain text is that text")
		}
	}
}

// TestWhatWasAskedAhead makes no difference (R4).
func TestWhatWasAskedAhead(t *testing.T) {
	x := scene()
	asks := []func() string{
		func() string { return Text(x) },
		func() string { return Inner(x, true) },
		func() string { return Inner(x.Kids[2], false) },
		func() string { return Escape("<&\u00a0\">", true) },
		func() string { return Escape("<&\u00a0\">", false) },
		func() string { return Text(el("script", text("<"))) },
		func() string { return Inner(el("noscript", text("<")), true) },
		func() string { return Inner(el("noscript", text("<")), false) },
		func() string { return Text(ring()) },
	}
	var want []string
	for _, ask := range asks {
		want = append(want, ask())
	}
	d := dice(4)
	for range 2000 {
		i := d.draw(len(asks))
		if got := asks[i](); got != want[i] {
			t.Fatalf("asked again, %d: %q, and was %q", i, got, want[i])
		}
	}
}
