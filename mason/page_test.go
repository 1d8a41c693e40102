package mason

import "testing"

func TestInitial(t *testing.T) {
	mustShow(t, false, []row{
		{`"_ "^ -c !html .`, `!c!?html?html(head()body())`},
		{`!html .`, `?html?html(head()body())`},
		{`!x .`, `quirky ?x?html(head()body())`},
		{`! .`, `quirky ??html(head()body())`},
		{`"x .`, `quirky html(head()body('x'))`},
		{`"_x .`, `quirky html(head()body('x'))`},
		{`<p .`, `quirky html(head()body(p()))`},
		{`</p .`, `quirky html(head()body())`},
		{`</html .`, `quirky html(head()body())`},
		{`<html .`, `quirky html(head()body())`},
		{`-c "_ "é .`, `quirky !c!html(head()body('é'))`},
		{`!html !x .`, `?html?html(head()body())`},
		{`.`, `quirky html(head()body())`},
	})
}

func TestBeforeHtml(t *testing.T) {
	mustShow(t, false, []row{
		{`!html "_ !x -c <html,a=1 .`, `?html?!c!html.a=1(head()body())`},
		{`!html <head,a .`, `?html?html(head.a()body())`},
		{`!html "_x .`, `?html?html(head()body('x'))`},
		{`!html </p </head .`, `?html?html(head()body())`},
		{`!html </x </template </div </title </p .`, `?html?html(head()body())`},
		{`!html </body .`, `?html?html(head()body())`},
		{`!html </html .`, `?html?html(head()body())`},
		{`!html </br .`, `?html?html(head()body(br()))`},
		{`!html <p .`, `?html?html(head()body(p()))`},
	})
}

func TestBeforeHead(t *testing.T) {
	mustShow(t, false, []row{
		{`!html <html "_ !x -c <html,a=1 <head,b .`, `?html?html.a=1(!c!head.b()body())`},
		{`!html <html,a=1 <html,a=2,b=3 .`, `?html?html.a=1.b=3(head()body())`},
		{`!html <html </head .`, `?html?html(head()body())`},
		{`!html <html </body .`, `?html?html(head()body())`},
		{`!html <html </html .`, `?html?html(head()body())`},
		{`!html <html </br .`, `?html?html(head()body(br()))`},
		{`!html <html </p </title </template .`, `?html?html(head()body())`},
		{`!html <html "_x .`, `?html?html(head()body('x'))`},
		{`!html <html <title "x </title .`, `?html?html(head(title('x'))body())`},
		{`!html <html <body,a .`, `?html?html(head()body.a())`},
	})
}

func TestInHead(t *testing.T) {
	mustShow(t, false, []row{
		{`!html <head "_ -c !x "_ <html,a .`, `?html?html.a(head(' '!c!' ')body())`},
		{`!html <head <base,a <link,b <meta,c .`, `?html?html(head(base.a()link.b()meta.c())body())`},
		{`!html <head <title,a "x "y </title "_ .`, `?html?html(head(title.a('xy')' ')body())`},
		{`!html <head <style,a "x </style .`, `?html?html(head(style.a('x'))body())`},
		{`!html <head <script,a "x </script .`, `?html?html(head(script.a('x'))body())`},
		{`!html <head <noscript <b .`, `?html?html(head()body(noscript(b())))`},
		{`!html <head <template,a "x </template <meta .`, `?html?html(head(template.a({'x'})meta())body())`},
		{`!html <head </template "_ .`, `?html?html(head(' ')body())`},
		{`!html <head <head,a "_ .`, `?html?html(head(' ')body())`},
		{`!html <head </head "_ .`, `?html?html(head()' 'body())`},
		{`!html <head </p </x </title </style "_ .`, `?html?html(head(' ')body())`},
		{`!html <head </body .`, `?html?html(head()body())`},
		{`!html <head </html .`, `?html?html(head()body())`},
		{`!html <head </br .`, `?html?html(head()body(br()))`},
		{`!html <head <p .`, `?html?html(head()body(p()))`},
		{`!html <head "_x .`, `?html?html(head(' ')body('x'))`},
		{`!html <head <basefont .`, `?html?html(head()body(basefont()))`},
		{`!html <head <title "x .`, `?html?html(head(title('x'))body())`},
		{`!html <head <template <p "x .`, `?html?html(head(template({p('x')}))body())`},
		{`!html <head <template </head </p "x <head <title "y </title </template "_ .`, `?html?html(head(template({'x'title('y')})' ')body())`},
	})
}

func TestAfterHead(t *testing.T) {
	mustShow(t, false, []row{
		{`!html </head "_ -c !x <html,a .`, `?html?html.a(head()' '!c!body())`},
		{`!html </head <body,a "x .`, `?html?html(head()body.a('x'))`},
		{`!html </head <base <link <meta .`, `?html?html(head(base()link()meta())body())`},
		{`!html </head <script "x </script .`, `?html?html(head(script('x'))body())`},
		{`!html </head <style "x </style "_ .`, `?html?html(head(style('x'))' 'body())`},
		{`!html </head <title "x </title .`, `?html?html(head(title('x'))body())`},
		{`!html </head <template "x </template -c .`, `?html?html(head(template({'x'}))!c!body())`},
		{`!html </head <template <b "x .`, `?html?html(head(template({b('x')}))body())`},
		{`!html </head </template .`, `?html?html(head()body())`},
		{`!html </head <head,a .`, `?html?html(head()body())`},
		{`!html </head </p </x </head "_ .`, `?html?html(head()' 'body())`},
		{`!html </head </body -c .`, `?html?html(head()body()!c!)`},
		{`!html </head </html .`, `?html?html(head()body())`},
		{`!html </head </br .`, `?html?html(head()body(br()))`},
		{`!html </head "_x_ .`, `?html?html(head()' 'body('x '))`},
		{`!html </head <noscript <b .`, `?html?html(head()body(noscript(b())))`},
	})
}

func TestWhatComesTooLateOrElsewhere(t *testing.T) {
	mustShow(t, false, []row{
		{`: <html,a=1 <html,a=2,b=3 .`, `?html?html.a=1.b=3(head()body())`},
		{`: <p <html,a=1 .`, `?html?html.a=1(head()body(p()))`},
		{`: <template <html,a=1 .`, `: template({})`},
		{`: <template <p <html,a=1 .`, `: template({p()})`},
		{`: <template </template <html,a=1 .`, `?html?html.a=1(head()body(template({})))`},
		{`!html <body,a=1 <body,a=2,b=3 .`, `?html?html(head()body.a=1.b=3())`},
		{`!html <body,a=1 <p <body,b "x .`, `?html?html(head()body.a=1.b(p('x')))`},
		{`: <template <body,a .`, `: template({})`},
		{`: <template <b <body,a .`, `: template({b()})`},
		{`: <p <meta <title "x </title <style </style <base <link <script "y .`, `: p(meta()title('x')style()base()link()script('y'))`},
		{`: <p !x -c "_x .`, `: p(!c!' x')`},
		{`: <p <head <td <th <tr <tbody <thead <tfoot <col "x .`, `: p('x')`},
		{`: <p <caption "x .`, `: p(caption('x'))`},
		{`: <p </body "x .`, `: p('x')`},
		{`: <p </html -c .`, `?html?html(head()body(p()))!c!`},
		{`: <object </body .`, `: object()`},
		{`: <object </html .`, `: object()`},
		{`: <table <td </body .`, `: table(tbody(tr(td())))`},
		{`: <p .`, `: p()`},
	})
}

func TestAfterBodyAndBehindThePage(t *testing.T) {
	mustShow(t, false, []row{
		{`: "x </body "y </html "z .`, `: 'xyz'`},
		{`: </body "_ -c !x <html,a=1 "_ .`, `?html?html.a=1(head()body('  ')!c!)`},
		{`: <p </body "_ .`, `: p(' ')`},
		{`: </body <p "x .`, `: p('x')`},
		{`: </body </p .`, `: p()`},
		{`: </body <body,a=1 "x .`, `?html?html(head()body.a=1('x'))`},
		{`: </body </body </html -c .`, `?html?html(head()body())!c!`},
		{`: </html "_ -c !x <html,a=1 -d "_ .`, `?html?html.a=1(head()body('  '))!c!!d!`},
		{`: </html "x -c </html -d .`, `?html?html(head()body('x'!c!))!d!`},
		{`: </html <p -c .`, `: p(!c!)`},
		{`: </html </p </body -c .`, `?html?html(head()body(p())!c!)`},
		{`: </html </html -c .`, `?html?html(head()body())!c!`},
		{`: <b </html "_x .`, `: b(' x')`},
		{`: </body "_x_ .`, `: ' x '`},
		{`: <svg </body "_x -c .`, `: ~svg(' x'!c!)`},
		{`: <svg </html "x -c .`, `: ~svg('x'!c!)`},
		{`: <svg </body </svg </html -c .`, `?html?html(head()body(~svg()))!c!`},
		{`: <table <td </body <p .`, `: table(tbody(tr(td(p()))))`},
		{`: . "x <p .`, `: `},
		{`: <p . .`, `: p()`},
	})
}
