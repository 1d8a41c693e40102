package scribe

import (
	"slices"
	"strings"
	"testing"

	"arbour/api"
)

// One End is taken eight times at most: each time but the eighth what is made anew is closed the next time, so that the eighth one alone shows where the mark was. What a row holds stands in the seventh of so many blocks.

const seven = "<div <div <div <div <div <div <div "

// seventh tells the tree of those blocks, all of one element of formatting, with inner in the seventh.
func seventh(name, inner string) string {
	return name + "()" + strings.Repeat("div("+name+"()", 6) + "div(" + inner + strings.Repeat(")", 7)
}

func TestTheEighthTime(t *testing.T) {
	mustShow(t, false, []row{
		{`: <b ` + seven + `<div </b </div "x .`, `: ` + seventh("b", `b()div(b())b('x')`)},
		{`: <b ` + seven + `<div <u </b </div "x .`, `: ` + seventh("b", `b()div(b(u()))b(u('x'))`)},
		{`: <b ` + seven + `<i <div </b </div "x .`, `: ` + seventh("b", `b(i())i(div(b())b('x'))`)},
		{`: <b ` + seven + `<i <div </b "x .`, `: ` + seventh("b", `b(i())i(div(b('x')))`)},
		{`: <b ` + seven + `<i <div <u </b </div "x .`, `: ` + seventh("b", `b(i())i(div(b(u()))b(u('x')))`)},
		{`: <b ` + seven + `<i <em <div <u </b </div "x .`, `: ` + seventh("b", `b(i(em()))i(em(div(b(u()))b(u('x'))))`)},
		{`: <b ` + seven + `<q <div <u </b </div "x .`, `: ` + seventh("b", `b(q())div(b(u()))b(u('x'))`)},
		{`: <b ` + seven + `<i <q <div <u </b </div "x .`, `: ` + seventh("b", `b(i(q()))i(div(b(u()))b(u('x')))`)},
		{`: <b ` + seven + `<i <u <em <small <div <code </b </div "x .`, `: ` + seventh("b", `b(i(u(em(small()))))u(em(small(div(b(code()))b(code('x')))))`)},
		{`: <b ` + seven + `<s <i <u <em <small <div <code </b </div "x .`, `: ` + seventh("b", `b(s(i(u(em(small())))))u(em(small(div(b(code()))b(code('x')))))`)},
		{`: <b ` + seven + `<i <q <q <q <div <code </b </div "x .`, `: ` + seventh("b", `b(i(q(q(q()))))div(b(code()))b(code('x'))`)},
		{`: <b ` + seven + `<i <u <q <q <div <code </b </div "x .`, `: ` + seventh("b", `b(i(u(q(q()))))u(div(b(code()))b(code('x')))`)},
		{`: <b ` + seven + `<div <div </b </div </div "x .`, `: ` + seventh("b", `b()div(b(div()))b('x')`)},
		{`: <a ` + seven + `<i <div <a "x .`, `: ` + seventh("a", `a(i())i(div(a(a('x'))))`)},
		{`: <a ` + seven + `<i <div <a </div "x .`, `: ` + seventh("a", `a(i())i(div(a(a()))a(a('x')))`)},
		{`: <nobr ` + seven + `<i <div <nobr "x .`, `: ` + seventh("nobr", `nobr(i())i(div(nobr(nobr('x'))))`)},
		{`: <u <b ` + seven + `<i <div <code </b </div "x .`, `: u(` + seventh("b", `b(i())i(div(b(code()))b(code('x')))`) + `)`},
		{`: <b <u ` + seven + `<i <div <code </b </div </div "x .`, `: b(u())u(` + strings.Repeat("div(b()", 6) + `div(b(i())i(div(b(code()))))i(b(code('x')))` + strings.Repeat(")", 7)},
	})
}

// TestWhatWasDroppedOfFour: the current one is popped, if it goes on no more because there were four alike; then no other one ends.
func TestWhatWasDroppedOfFour(t *testing.T) {
	mustShow(t, false, []row{
		{`: <b <b <b <b <b </b </b </b </b "x .`, `: b(b(b(b(b())))'x')`},
		{`: <b,a <b <b <b <b </b </b </b </b "x .`, `: b.a(b(b(b(b())))'x')`},
		{`: <b,a <b <b <b <b </b </b </b </b </b "x .`, `: b.a(b(b(b(b()))))'x'`},
	})
}

// TestDrawnEighthTimes: formatting of all kinds is open where the eighth time comes, and ahead of and behind it.
func TestDrawnEighthTimes(t *testing.T) {
	const some = "b i u em small q b,a i,a a"
	d := dice(8)
	few := func(most int) (l []api.Token) {
		for range d.draw(most) {
			l = append(l, tokens("<"+d.of(some))...)
		}
		return l
	}
	for range 1500 {
		name := d.of("b i a nobr")
		l := slices.Concat(few(3), []api.Token{start(name)}, few(2), tokens(strings.Repeat("<div ", 6+d.draw(3))), few(8), tokens("<div"), few(4))
		if name == "a" || name == "nobr" {
			l = append(l, start(name))
		} else {
			l = append(l, end(name))
		}
		for range d.draw(6) {
			l = append(l, end(d.of("b i div div u em small")))
		}
		mustBeByWords(t, false, nil, append(l, text("x"), eof))
	}
}
