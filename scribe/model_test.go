package scribe

import (
	"slices"
	"strings"
	"testing"

	"arbour/api"
	"arbour/attrs"
	"arbour/chars"
	"arbour/names"
	"arbour/token"
)

// rules are the promise's words: of each mode what tokens are named, the first that fits counts, and what is done, step for step.
// A pattern with ! means all names but these; one with + holds with scripting alone; $ is the token's name.
const rules = `
Initial
space:
comment: comment@document
doctype: doctype mode=BeforeHtml
else: quirky mode=BeforeHtml again

BeforeHtml
doctype space:
comment: comment@document
<html: insert mode=BeforeHead
/!head,body,html,br:
else: make=html mode=BeforeHead again

BeforeHead
space doctype:
comment: comment
<html: as=InBody
<head: insert head mode=InHead
/!head,body,html,br:
else: make=head head mode=InHead again

InHead
space: text
comment: comment
doctype:
<html: as=InBody
<base <link <meta: insert pop
<title <style <script <noscript+: raw
<template: insert mark pushmode=InTemplate mode=InTemplate
/template: need=template thorough until=template clearactive popmode reset
<head:
/head: pop mode=AfterHead
/!body,html,br:
else: pop mode=AfterHead again

AfterHead
space: text
comment: comment
doctype:
<html: as=InBody
<body: insert mode=InBody
<base <link <meta <script <style <template <title: pushhead as=InHead pullhead
/template: as=InHead
<head:
/!body,html,br:
else: make=body mode=InBody again

InBody
space text: reconstruct text
comment: comment
doctype:
<html: need=notemplate more=0
<base <link <meta <script <style <template <title /template: as=InHead
<body: need=second need=notemplate more=1
eof: eof
/body: need=scope:body mode=AfterBody
/html: need=scope:body mode=AfterBody again
<BLOCK <p: closep insert
<HEADING: closep popheading insert
<pre: closep insert lf
<form: need=formfree closep insert formalone
<li: closeitem=li closep insert
<dd <dt: closeitem=dd,dt closep insert
<plaintext: closep insert plaintext
<button: closebutton reconstruct insert
/BLOCK /button /pre: need=scope:$ imply until=$
/form: endform
/p: makep closep
/li: need=lists:li imply=li until=li
/dd /dt: need=scope:$ imply=$ until=$
/HEADING: need=scope:h1,h2,h3,h4,h5,h6 imply until=h1,h2,h3,h4,h5,h6
<a: olda reconstruct insert push
<nobr: reconstruct oldnobr insert push
<FORMATTING: reconstruct insert push
/FORMATTING: adopt
<applet <marquee <object: reconstruct insert mark
/applet /marquee /object: need=scope:$ imply until=$ clearactive
<table: closepunlessquirky insert mode=InTable
/br: reconstruct make=br pop
<area <br <embed <img <input <wbr: reconstruct insert pop
<source: insert pop
<hr: closep insert pop
<image: reconstruct insert=img pop
<textarea: raw lf
<xmp: closep reconstruct raw
<noscript+: raw
<svg: reconstruct svg
<col <head <tbody <td <tfoot <th <thead <tr:
<!: reconstruct insert
/!: anyend

InText
space text: text
eof: pop mode=back again
/!: pop mode=back

InTable
waiting: remember mode=InTableText again
comment: comment
doctype:
<tbody <tfoot <thead: clear=table insert mode=InTableBody
<td <th <tr: clear=table make=tbody mode=InTableBody again
<table: need=tables:table until=table reset again
/table: need=tables:table until=table reset
/body /html /tbody /td /tfoot /th /thead /tr:
<style <script <template /template: as=InHead
hidden: insert pop
<form: need=noform need=notemplate insert form pop
eof: as=InBody
else: foster=InBody

InTableText
space text: wait
else: flush mode=back again

InTableBody
<tr: clear=tbody,tfoot,thead insert mode=InRow
<td <th: clear=tbody,tfoot,thead make=tr mode=InRow again
/tbody /tfoot /thead: need=tables:$ clear=tbody,tfoot,thead pop mode=InTable
<tbody <tfoot <thead /table: need=tables:tbody,tfoot,thead clear=tbody,tfoot,thead pop mode=InTable again
/body /html /td /th /tr:
else: as=InTable

InRow
<td <th: clear=tr insert mode=InCell mark
/tr: need=tables:tr clear=tr pop mode=InTableBody
<tbody <tfoot <thead <tr /table: need=tables:tr clear=tr pop mode=InTableBody again
/tbody /tfoot /thead: need=tables:$ need=tables:tr clear=tr pop mode=InTableBody again
/body /html /td /th:
else: as=InTable

InCell
/td /th: need=tables:$ imply until=$ clearactive mode=InRow
<tbody <td <tfoot <th <thead <tr: need=tables:td,th imply until=td,th clearactive mode=InRow again
/body /html:
/table /tbody /tfoot /thead /tr: need=tables:$ imply until=td,th clearactive mode=InRow again
else: as=InBody

InTemplate
space text comment doctype: as=InBody
<base <link <meta <script <style <template <title /template: as=InHead
<tbody <tfoot <thead: turn=InTable again
<tr: turn=InTableBody again
<td <th: turn=InRow again
<!: turn=InBody again
/!:
eof: donealone need=template until=template clearactive popmode reset again

AfterBody
space: as=InBody
comment: comment@first
doctype:
<html: as=InBody
/html: need=whole mode=AfterAfterBody
eof: done
else: mode=InBody again

AfterAfterBody
comment: comment@document
doctype space <html: as=InBody
eof: done
else: mode=InBody again
`

// rule is a line of the rules.
type rule struct{ patterns, steps []string }

// ruleBook reads the rules: of each mode its lines.
func ruleBook() map[string][]rule {
	book := map[string][]rule{}
	mode := ""
	for _, line := range strings.Split(rules, "\n") {
		who, what, ok := strings.Cut(line, ":")
		if ok {
			book[mode] = append(book[mode], rule{strings.Fields(who), strings.Fields(what)})
		} else if line != "" {
			mode = line
		}
	}
	return book
}

var book = ruleBook()

// node is one of the model's tree, which hangs together by pointers.
type node struct {
	kind, ns int
	name     string
	attrs    []api.Attr
	text     string
	up       *node
	kids     []*node
}

// entry is one of the model's active list; nil stands for a marker.
type entry = *node

// model takes tokens by the rules' words, rune by rune, and builds a tree.
type model struct {
	book                                   map[string][]rule
	scripting                              bool
	part                                   *api.Context
	mode, back                             string
	root                                   *node
	open                                   []*node
	active                                 []entry
	modes                                  []string
	head, form                             *node
	drops, fostering, quirky, done, ignore bool
	waits                                  string
	told                                   int
}

func newModel(scripting bool, c *api.Context) *model {
	m := &model{book: book, scripting: scripting, part: c, mode: "Initial", root: &node{kind: api.Document}}
	if c == nil {
		return m
	}
	m.insert(&node{kind: api.Element, ns: api.HTML, name: "html"})
	if c.NS == api.HTML && c.Name == "template" {
		m.modes = []string{"InTemplate"}
	}
	if c.NS == api.HTML && c.Name == "form" {
		m.form = &node{}
	}
	m.reset()
	return m
}

func (m *model) feed(t api.Token) {
	m.told = 0
	if m.done || !token.Right(t) {
		return
	}
	drops := m.drops
	m.drops = false
	if t.Kind != api.Text {
		m.take(t)
		return
	}
	for i, r := range t.Text {
		size := len(string(r))
		if r == '\uFFFD' && !strings.HasPrefix(t.Text[i:], "\uFFFD") {
			size = 1
		}
		if i > 0 || r != '\n' || !drops {
			m.take(api.Token{Kind: api.Text, Text: t.Text[i : i+size]})
		}
	}
}

func (m *model) take(t api.Token) {
	ns, name := m.adjusted()
	point := names.Point(ns, name)
	if len(m.open) > 0 && ns == api.SVG && t.Kind != api.EOF && !(point && (t.Kind == api.Start || t.Kind == api.Text)) {
		m.foreign(t)
		return
	}
	m.byMode(t)
}

func (m *model) byMode(t api.Token) {
	for m.apply(m.mode, t) {
	}
}

// apply does the first rule of a mode that names the token, and tells whether it says again.
func (m *model) apply(mode string, t api.Token) bool {
	for _, r := range m.book[mode] {
		if !slices.ContainsFunc(r.patterns, func(p string) bool { return m.fits(p, t) }) {
			continue
		}
		m.ignore = false
		again := false
		for _, s := range r.steps {
			word, list, _ := strings.Cut(s, "=")
			again = m.step(word, strings.ReplaceAll(list, "$", t.Name), t) || again
			if m.ignore {
				return false
			}
		}
		return again
	}
	return false
}

// fits tells whether a pattern means a token.
func (m *model) fits(p string, t api.Token) bool {
	space := t.Kind == api.Text && chars.Spaces(t.Text)
	switch p {
	case "space":
		return space
	case "text":
		return t.Kind == api.Text && !space
	case "comment":
		return t.Kind == api.Comment
	case "doctype":
		return t.Kind == api.Doctype
	case "eof":
		return t.Kind == api.EOF
	case "else":
		return true
	case "waiting":
		return t.Kind == api.Text && m.current().is("table", "tbody", "template", "tfoot", "thead", "tr")
	case "hidden":
		v, _ := attrs.Get(t.Attrs, "type")
		return t.Kind == api.Start && t.Name == "input" && chars.Lower(v) == "hidden"
	}
	if (p[0] == '<') != (t.Kind == api.Start) || (p[0] == '/') != (t.Kind == api.End) {
		return false
	}
	name := p[1:]
	switch name {
	case "BLOCK":
		return names.Block(t.Name)
	case "HEADING":
		return names.Heading(t.Name)
	case "FORMATTING":
		return names.Formatting(t.Name)
	}
	if but, ok := strings.CutPrefix(name, "!"); ok {
		return !slices.Contains(strings.Split(but, ","), t.Name)
	}
	if with, ok := strings.CutSuffix(name, "+"); ok {
		return m.scripting && with == t.Name
	}
	return name == t.Name
}

// step does one step, and tells whether the token shall go again.
func (m *model) step(word, list string, t api.Token) bool {
	made := func(name string, l []api.Attr) {
		m.insert(&node{kind: api.Element, ns: api.HTML, name: name, attrs: slices.Clone(l)})
	}
	l := strings.Split(list, ",")
	switch word {
	case "again":
		return true
	case "as":
		return m.apply(list, t)
	case "foster":
		m.fostering = true
		again := m.apply(list, t)
		m.fostering = false
		return again
	case "mode":
		if list == "back" {
			list = m.back
		}
		m.mode = list
	case "remember":
		m.back = m.mode
	case "need":
		m.ignore = !m.holds(list)
	case "insert":
		if list == "" {
			list = t.Name
		}
		made(list, t.Attrs)
	case "make":
		made(list, nil)
	case "svg":
		m.insertSVG(t, t.Name)
	case "pop":
		m.pop()
	case "raw":
		made(t.Name, t.Attrs)
		m.told = names.Raw(t.Name, m.scripting)
		m.back, m.mode = m.mode, "InText"
	case "plaintext":
		m.told = api.Plaintext
	case "lf":
		m.drops = true
	case "text":
		m.write(t.Text)
	case "comment", "comment@first", "comment@document":
		m.comment(word, t.Text)
	case "doctype":
		m.hang(&node{kind: api.DoctypeNode, name: t.Name}, m.root, nil)
		m.quirky = t.Name != "html"
	case "quirky":
		m.quirky = true
	case "head":
		m.head = m.current()
	case "form":
		m.form = m.current()
	case "more":
		x := m.open[int(list[0]-'0')]
		x.attrs = attrs.More(x.attrs, t.Attrs)
	case "imply":
		m.imply(list)
	case "thorough":
		for m.current().ns == api.HTML && names.Thorough(m.current().name) {
			m.pop()
		}
	case "until":
		for !m.pop().is(l...) {
		}
	case "clear":
		for !m.current().is(append(l, "html", "template")...) {
			m.pop()
		}
	case "eof":
		if len(m.modes) > 0 {
			return m.apply("InTemplate", t)
		}
		m.done = true
	case "done":
		m.done = true
	case "donealone":
		m.done = !m.has("template")
	default:
		m.rareStep(word, list, t)
	}
	return false
}

func (m *model) rareStep(word, list string, t api.Token) {
	switch word {
	case "mark":
		m.active = append(m.active, nil)
	case "push":
		m.push(m.current())
	case "clearactive":
		m.clear()
	case "pushmode":
		m.modes = append(m.modes, list)
	case "popmode":
		m.modes = m.modes[:len(m.modes)-1]
	case "turn":
		m.modes[len(m.modes)-1] = list
		m.mode = list
	case "reset":
		m.reset()
	case "pushhead":
		m.open = append(m.open, m.head)
	case "pullhead":
		m.remove(m.head)
	case "reconstruct":
		m.reconstruct()
	case "closep":
		m.closeP()
	case "closepunlessquirky":
		if !m.quirky {
			m.closeP()
		}
	case "makep":
		if !m.scope("buttons", "p") {
			m.insert(&node{kind: api.Element, ns: api.HTML, name: "p"})
		}
	case "popheading":
		if x := m.current(); x.ns == api.HTML && names.Heading(x.name) {
			m.pop()
		}
	case "closebutton":
		if m.scope("scope", "button") {
			m.imply("")
			m.until("button")
		}
	case "closeitem":
		m.closeItem(strings.Split(list, ","))
	case "formalone":
		if !m.has("template") {
			m.form = m.current()
		}
	case "endform":
		m.endForm()
	case "anyend":
		m.anyEnd(t.Name)
	case "adopt":
		m.adopt(t.Name)
	case "olda":
		if x := m.find("a"); x != nil {
			m.adopt("a")
			m.forget(x)
			m.remove(x)
		}
	case "oldnobr":
		if m.scope("scope", "nobr") {
			m.adopt("nobr")
			m.reconstruct()
		}
	case "wait":
		m.waits += t.Text
	case "flush":
		m.flush()
	default:
		panic("no such step: " + word)
	}
}

// holds tells whether a condition holds.
func (m *model) holds(c string) bool {
	kind, list, _ := strings.Cut(c, ":")
	switch kind {
	case "template":
		return m.has("template")
	case "notemplate":
		return !m.has("template")
	case "second":
		return len(m.open) > 1 && m.open[1].is("body")
	case "formfree":
		return m.form == nil || m.has("template")
	case "noform":
		return m.form == nil
	case "whole":
		return m.part == nil
	case "scope", "lists", "tables":
		return m.scope(kind, strings.Split(list, ",")...)
	}
	panic("no such condition: " + c)
}

func (m *model) flush() {
	all := m.waits
	m.waits = ""
	if chars.Spaces(all) {
		m.write(all)
		return
	}
	m.fostering = true
	for _, r := range chars.Split(all) {
		m.apply("InBody", api.Token{Kind: api.Text, Text: r})
	}
	m.fostering = false
}

// TestTheModelKnowsItsRules lets no word of the rules be one that the model does not know.
func TestTheModelKnowsItsRules(t *testing.T) {
	for mode, l := range book {
		for _, r := range l {
			for _, s := range r.steps {
				word, list, _ := strings.Cut(s, "=")
				if word == "as" || word == "foster" || word == "mode" && list != "back" {
					if book[list] == nil {
						t.Errorf("%s: %s", mode, s)
					}
				}
			}
		}
	}
	if len(book) != 15 {
		t.Errorf("%d modes", len(book))
	}
}
