package mason

import (
	"strings"
	"testing"
)

// steps are rows of tokens, behind each of which stands what a Mason tells then: the mode, what the lexer is told, ~ of foreign, ! of done.
var steps = []string{
	`"_>initial -c>initial !html>beforehtml "_>beforehtml -c>beforehtml <html>beforehead "_>beforehead <head>inhead "_>inhead <title>intext:2 "x>intext </title>inhead </head>afterhead "_>afterhead <body>inbody "x>inbody </body>afterbody "_>afterbody </html>afterafterbody "_>afterafterbody -c>afterafterbody "x>inbody .>inbody!`,
	`<title>intext:2 "x>intext .>inbody! .>inbody!`,
	`!>beforehtml </p>beforehtml </head>afterhead </body>afterbody .>afterbody!`,
	`<style>intext:3 </x>inhead <noscript>inbody <meta>inbody .>inbody!`,
	`<script>intext:3 -c>intext </script>inhead </head>afterhead <script>intext:3 </script>afterhead <title>intext:2 </title>afterhead <base>afterhead .>inbody!`,
	`: <textarea>intext:2 "x>intext </textarea>inbody <xmp>intext:3 </xmp>inbody <plaintext>inbody:4 "x>inbody </plaintext>inbody .>inbody!`,
	`: <title>intext:2 "x>intext .>inbody! <p>inbody!`,
	`: <noscript>inbody <image>inbody </br>inbody .>inbody!`,
	`: <table>intable "x>intabletext <tbody>intablebody "_>intabletext <tr>inrow "x>intabletext <td>incell "x>incell </td>inrow </tr>intablebody </tbody>intable </table>inbody "x>inbody .>inbody!`,
	`: <table>intable <tr>inrow <td>incell <table>intable <th>incell </table>incell </td>inrow <caption>inrow </tr>intablebody <thead>intablebody .>intablebody!`,
	`: <table>intable <td>incell <tr>inrow <td>incell <tbody>intablebody <td>incell </tbody>intable <td>incell </table>inbody .>inbody!`,
	`: <table>intable "_>intabletext !x>intable "x>intabletext -c>intable "x>intabletext ??>intabletext "y>intabletext <style>intext:3 "x>intext </style>intable .>intable!`,
	`: <table>intable <tr>inrow "x>intabletext <script>intext:3 </script>inrow "x>intabletext .>inrow!`,
	`: <table>intable "x>intabletext .>intable!`,
	`: <table>intable <td>incell <template>intemplate <tr>inrow <td>incell <template>intemplate <tbody>intablebody </template>incell </template>incell .>incell!`,
	`<template>intemplate <td>incell <p>incell </p>incell <template>intemplate <tr>inrow </template>incell </template>inhead <template>intemplate <b>inbody .>inbody!`,
	`<template>intemplate <template>intemplate <td>incell .>inbody!`,
	`: <template>intemplate <table>intable <td>incell .>inbody! .>inbody!`,
	`: <svg>inbody~ <g>inbody~ <title>inbody~ <p>inbody </p>inbody~ </title>inbody~ </g>inbody~ </svg>inbody .>inbody!`,
	`: <svg>inbody~ <desc>inbody~ <svg>inbody~ <b>inbody </desc>inbody .>inbody!`,
	`: <svg>inbody~ <title>inbody~ <table>intable "x>intabletext <td>incell <svg>incell~ </svg>incell </table>inbody~ </svg>inbody .>inbody!`,
	`: <svg>inbody~ </body>afterbody~ "x>afterbody~ </svg>afterbody </html>afterafterbody <svg>inbody~ </html>afterafterbody~ .>afterafterbody~!`,
	`: <svg,/>inbody <svg>inbody~ <g,/>inbody~ <font>inbody~ <font,size>inbody <svg>inbody~ .>inbody~!`,
	`: </body>afterbody <p>inbody </body>afterbody </html>afterafterbody </p>inbody </html>afterafterbody </html>afterafterbody .>afterafterbody!`,
	`: <form>inbody <pre>inbody <a>inbody <object>inbody </object>inbody .>inbody!`,
}

func TestSteps(t *testing.T) {
	for _, s := range steps {
		b := newBoth(t, false, nil)
		if stateOf(b.m) != "initial" {
			t.Errorf("first: %s", stateOf(b.m))
		}
		for _, f := range strings.Fields(s) {
			if f == ":" {
				b.feed(s, tokens("!html")[0])
				b.feed(s, tokens("<body")[0])
				continue
			}
			x, want, _ := strings.Cut(f, ">")
			b.feed(s, tokens(x)[0])
			if stateOf(b.m) != want {
				t.Fatalf("%s: behind %s: %s, want %s", s, x, stateOf(b.m), want)
			}
		}
	}
}

// TestStepsOfScripting: noscript is raw then, ahead of the body and in it.
func TestStepsOfScripting(t *testing.T) {
	for _, s := range []string{
		`<noscript>intext:3 "x>intext </noscript>inhead </head>afterhead <noscript>intext:3 </p>inbody <table>intable <noscript>intext:3 .>intable!`,
		`<svg>inbody~ <noscript>inbody~ </noscript>inbody~ <desc>inbody~ <noscript>intext:3 </x>inbody~ .>inbody~!`,
	} {
		b := newBoth(t, true, nil)
		for _, f := range strings.Fields(s) {
			x, want, _ := strings.Cut(f, ">")
			b.feed(s, tokens(x)[0])
			if stateOf(b.m) != want {
				t.Fatalf("%s: behind %s: %s, want %s", s, x, stateOf(b.m), want)
			}
		}
	}
}

// TestFirstStepsOfParts: what a fragment's Mason tells ahead of the first Feed.
func TestFirstStepsOfParts(t *testing.T) {
	for c, want := range map[string]string{
		"td": "inbody", "th": "inbody", "tr": "inrow", "tbody": "intablebody", "tfoot": "intablebody", "thead": "intablebody", "table": "intable", "template": "intemplate",
		"head": "inbody", "body": "inbody", "html": "beforehead", "p": "inbody", "form": "inbody", "title": "inbody", "x": "inbody", "TR": "inbody", "select": "inbody",
		"~svg": "inbody~", "~g": "inbody~", "~title": "inbody~", "~tr": "inbody~", "~template": "inbody~", "~html": "inbody~", "~foreignObject": "inbody~",
	} {
		for _, scripting := range []bool{false, true} {
			if got := stateOf(engine(t, scripting, part(c))); got != want {
				t.Errorf("%s: %s, want %s", c, got, want)
			}
		}
	}
}
