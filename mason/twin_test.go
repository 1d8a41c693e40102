package mason

import (
	"slices"
	"strings"
	"testing"

	"arbour/api"
)

// every are the names that a rule names, and some that none does.
const every = "a address applet area article b base blockquote body br button center code col dd div dl dt em embed font form h1 h2 h6 head hr html i image img input li link main marquee meta nav nobr noscript object ol p plaintext pre script section small source strong style svg table tbody td template textarea tfoot th thead title tr u ul wbr xmp" +
	" caption desc foreignobject g keygen q x"

// contexts are those that a rule names, and others.
const contexts = "html head body td th tr tbody tfoot thead table template form title textarea script style xmp noscript plaintext p div select TD ~svg ~g ~title ~desc ~foreignObject ~td ~template ~form"

// ways lead into each mode, each as far as its last token.
var ways = []string{
	``, `!html`, `!x`, `<html`, `!html <html,a=1`, `<head`, `<head <template`, `<head <title`, `<head <noscript`, `<html </head`, `<head </head`, `<head </head <template`, `<head </head <script "x`,
	`!html <body`, `<body,a=1`, `!html <p`, `<p`, `<p <b "x`, `<b <b <b <b <p`, `<b "1 <p "2`, `<b </p`, `<a`, `<a <div`, `<a <b <div`, `<a <p <table`, `<a <table <tr <td`, `<nobr <i <div`,
	`<b <i <u <em <small <div`, `<b <q <i <x <div`, `<a <object`, `<b <template`, `<h1`, `<h2 <b`, `<pre`, `<form`, `<form <div`, `<div <form`, `<form <template`, `<ul <li`, `<ul <li <div`, `<ul <li <p`, `<li <section`, `<dl <dt`, `<dl <dd <address`,
	`<button`, `<p <button`, `<button <dd`, `<object <b`, `<textarea`, `<xmp`, `<style "x`, `<plaintext`, `<p <source`, `<li <ol`, `<li <button`,
	`!html <p <table`, `<p <table`, `<table`, `<table "x`, `<table "_`, `<b <table`, `<table <b`, `<table <b "x`, `<table <form`, `<table <tbody`, `<table <tbody "x`, `<table <tr`, `<table <tr "_`, `<table <tr <b`, `<table <td`, `<table <td <p`, `<table <th <b <div`, `<table <td <table <tr`, `<table <td <dd`, `<table <tbody <template`, `<table <tr <td <template`,
	`<template`, `<template <td`, `<template <tr`, `<template <tbody`, `<template <p`, `<template <p <template`, `<template <table`, `<template <tr "x`, `<template <table <tr`, `<template "_`, `<template <col`,
	`<svg`, `<svg <g`, `<p <svg`, `<svg <title`, `<svg <desc <p`, `<svg <desc <b <svg <g`, `<svg <foreignobject <table`, `<svg <foreignobject <g <svg`, `<table <svg`, `<template <svg`, `<svg <template`, `<svg <font`, `<svg <title <template`, `<svg <title <tr`,
	`<body </body`, `!html </html`, `</body </html`, `<p </body`, `<svg </body`, `<svg </html`, `</html -x`, `. .`, `<b <svg <g`, `<svg <p`, `<table <svg <desc <b`,
}

// afterEach are tokens, each of which is fed behind each way.
func afterEach() []api.Token {
	var l []api.Token
	for _, name := range strings.Fields(every) {
		l = append(l, start(name), end(name))
	}
	return append(l, tokens(`!html !x "_ "^ "x "_x "x_ "^x "é_ð "_`+"\xff\xc3 "+`-c . ?? <input,type=HiDDen <input,type=hid <font,color <font,a <font,face=1 <font,size,/ <g,/ <svg,viewbox=1,/ <p,/ <body,a=2,b=3 <html,a=2,b=3 <b,x <a,y <img,a=1 <image,a=1 <form,a <table,a <td,a`)...)
}

func TestEachTokenBehindEachWay(t *testing.T) {
	last := afterEach()
	for _, way := range ways {
		head := tokens(way)
		for _, x := range last {
			// What is open and what goes on shows in what comes then.
			l := slices.Concat(head, []api.Token{x, text("z"), eof})
			mustBeByScribe(t, false, nil, l)
			mustBeByScribe(t, true, nil, l)
		}
	}
}

func TestEachTokenInEachContext(t *testing.T) {
	last := afterEach()
	for _, c := range strings.Fields(contexts) {
		for _, way := range []string{``, `<p`, `<b <table`, `<tr`, `<td <b`, `<g`, `<svg`, `<title`, `"x`, `"_`, `<template <tr`, `<form`, `</form`, `</title`, `<body </body`, `</html`, `<head </head`, `</head`, `-c`, `</template`} {
			head := tokens(way)
			for i, x := range last {
				l := slices.Concat(head, []api.Token{x, text("z"), eof})
				mustBeByScribe(t, i%4 < 2, part(c), l)
			}
		}
	}
}

// drawn draws a token with names of a list.
func (d *dice) drawn(list string) api.Token {
	switch d.draw(16) {
	case 0, 1, 2, 3, 4, 5, 6:
		x := start(d.of(list))
		if d.draw(5) == 0 {
			x.Attrs = attrsOf([]string{"a=1", "a=2", "b=1", "a=1 b=1", "b=1 a=1", "type=hidden", "color", "viewbox=1 viewBox=2"}[d.draw(8)])
		}
		x.Self = d.draw(9) == 0
		return x
	case 7, 8, 9, 10, 11:
		return end(d.of(list))
	case 12, 13:
		return text([]string{"x", " ", "\n", "y z", "\nw", " v", "é", "\xff \xc3", "\t\f\r\n ", "\uFFFD"}[d.draw(10)])
	case 14:
		return comment([]string{"", "c"}[d.draw(2)])
	}
	return []api.Token{doctype("html"), doctype(""), {}, {Kind: api.Text}, start("P"), text(""), start("b"), end(d.of(list)), start(d.of(list)), start("table"), start("p"), text("t"), text("u"), start("svg"), start("td"), start("template")}[d.draw(16)]
}

// families are names that are drawn together, so that they meet.
var families = []string{
	every, every,
	"a b i p div", "a b i u em div section p span", "b nobr p div table tr td", "a nobr font p object", "table tbody tfoot tr td th b p", "table tr td template b a",
	"svg g title desc foreignobject p b table font template", "li ul ol dd dt dl p div address h1 h2 form button", "html head body title meta script template p noscript",
	"template table tr td tbody div form", "form table input template div", "pre textarea xmp plaintext p style title", "object applet marquee button b a p table td",
}

func TestDrawnRuns(t *testing.T) {
	d := dice(22)
	for range 12000 {
		var l []api.Token
		family := families[d.draw(len(families))]
		for range 1 + d.draw(20) {
			l = append(l, d.drawn(family))
		}
		for range d.draw(3) {
			l = append(l, eof)
		}
		var c *api.Context
		if d.draw(3) == 0 {
			c = part(d.of(contexts))
		}
		mustBeByScribe(t, d.draw(2) == 0, c, l)
	}
}

// TestDrawnLongRuns: much formatting, so that it ends far from where it began.
func TestDrawnLongRuns(t *testing.T) {
	d := dice(2222)
	for range 250 {
		family := families[d.draw(len(families))]
		var l []api.Token
		for range 150 {
			l = append(l, d.drawn(family))
		}
		mustBeByScribe(t, d.draw(2) == 0, nil, append(l, eof))
	}
}

// TestTreesBehindEachFeed: not at the end alone are the trees the same; ahead of the first Feed they are not yet, for that is where a Scribe answers the html of a Part.
func TestTreesBehindEachFeed(t *testing.T) {
	d := dice(122)
	for range 1500 {
		var c *api.Context
		if d.draw(3) == 0 {
			c = part(d.of(contexts))
		}
		b := newBoth(t, d.draw(2) == 0, c)
		family := families[d.draw(len(families))]
		var l []api.Token
		for range 1 + d.draw(20) {
			l = append(l, d.drawn(family))
			b.feed(textOf(l), l[len(l)-1])
			b.mustBeSame(textOf(l))
		}
	}
}
