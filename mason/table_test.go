package mason

import (
	"testing"

	"arbour/api"
)

func TestInTable(t *testing.T) {
	mustShow(t, false, []row{
		{`: <table <tr <td "1 <td "2 <tr <th "3 </table "4 .`, `: table(tbody(tr(td('1')td('2'))tr(th('3'))))'4'`},
		{`: <table <td .`, `: table(tbody(tr(td())))`},
		{`: <table <th .`, `: table(tbody(tr(th())))`},
		{`: <table <tr .`, `: table(tbody(tr()))`},
		{`: <table <tbody,a <tfoot,b <thead,c <tbody .`, `: table(tbody.a()tfoot.b()thead.c()tbody())`},
		{`: <table <tbody <td "x .`, `: table(tbody(tr(td('x'))))`},
		{`: <table <thead <td "x .`, `: table(thead(tr(td('x'))))`},
		{`: <table <tfoot <th .`, `: table(tfoot(tr(th())))`},
		{`: <table <thead <tr,a <td,b "x .`, `: table(thead(tr.a(td.b('x'))))`},
		{`: <table <p <tbody .`, `: p()table(tbody())`},
		{`: <table <b <tr "x .`, `: b()b('x')table(tbody(tr()))`},
		{`: <table -c !x <tr -d <td -e .`, `: table(!c!tbody(tr(!d!td(!e!))))`},
		{`: <table <table "x .`, `: table()'x'table()`},
		{`: <table <tr <table .`, `: table(tbody(tr()))table()`},
		{`: <table <td <table <td "x </table "y </table "z .`, `: table(tbody(tr(td(table(tbody(tr(td('x'))))'y'))))'z'`},
		{`: <p <table </p .`, `: p()p()table()`},
		{`!x <p <table </p .`, `quirky ?x?html(head()body(p(p()table())))`},
		{`: <table </body </html </tbody </td </tfoot </th </thead </tr <td .`, `: table(tbody(tr(td())))`},
		{`: <table <col <caption "x .`, `: caption('x')table()`},
		{`: <table <html,a=1 <body,b=1 <head .`, `?html?html.a=1(head()body.b=1(table()))`},
		{`: <table <input,type=HIDDEN,a <input <input,type=hid <input,type <input,a=hidden .`, `: input()input.type=hid()input.type()input.a=hidden()table(input.type=HIDDEN.a())`},
		{`: <table <tr <input,type=hidden .`, `: table(tbody(tr(input.type=hidden())))`},
		{`: <table <style "a </style <script "b </script .`, `: table(style('a')script('b'))`},
		{`: <table <title "a </title .`, `: title('a')table()`},
		{`: <table <textarea "^a </textarea .`, `: textarea('a')table()`},
		{`: <table <form,a <form <input </form "x .`, `: input()'x'table(form.a())`},
		{`: <table <svg <g "x </table .`, `: ~svg(~g('x'))table()`},
		{`: <table <svg,/ "x .`, `: ~svg()'x'table()`},
		{`: <table <meta <base <link .`, `: meta()base()link()table()`},
		{`: <table <select <div </div </select <hr <br .`, `: select(div())hr()br()table()`},
		{`: <table </p </br </b </x .`, `: p()br()table()`},
		{`: <table <plaintext "x .`, `: plaintext('x')table()`},
		{`: <table .`, `: table()`},
		{`: <table <tr .`, `: table(tbody(tr()))`},
		{`: <table <b "x .`, `: b('x')table()`},
		{`: <object <table </object "x .`, `: object('x'table())`},
		{`: <table <object </table "x .`, `: object()table()'x'`},
		{`: <div <table <tr </div <td .`, `: div(table(tbody(tr(td()))))`},
	})
}

func TestTextsInTables(t *testing.T) {
	mustShow(t, false, []row{
		{`: <table "_ "^_ <tr "_ <td "_ .`, `: table(' ^ 'tbody(tr(' 'td(' '))))`},
		{`: <table "_ "x "_ <tr .`, `: ' x 'table(tbody(tr()))`},
		{`: <table "a <tr "b <td "c .`, `: 'ab'table(tbody(tr(td('c'))))`},
		{`: <table "_ -c "x -d .`, `: 'x'table(' '!c!!d!)`},
		{`: <table "_ .`, `: table(' ')`},
		{`: <table "x .`, `: 'x'table()`},
		{`: <table "_ </table "x .`, `: table(' ')'x'`},
		{`: <table "x </table "y .`, `: 'x'table()'y'`},
		{`: <table "_ !x "x !y .`, `: 'x'table(' ')`},
		{`: <table "_ ?? "x </table .`, `: ' x'table()`},
		{`: <table <tbody "x <tfoot "y </tfoot "z .`, `: 'xyz'table(tbody()tfoot())`},
		{`: <table <tbody "_ </tbody "_ .`, `: table(tbody(' ')' ')`},
		{`: <b <table "x <td .`, `: b('x'table(tbody(tr(td()))))`},
		{`: <b <table "_ <td .`, `: b(table(' 'tbody(tr(td()))))`},
		{`: <b <p </b <table "x .`, `: b()p(b())'x'table()`},
		{`: <table <b <tr "x <td .`, `: b()b('x')table(tbody(tr(td())))`},
		{`: <table <b <tr "_ <td .`, `: b()table(tbody(tr(' 'td())))`},
		{`: <table <b "_x </b "_ .`, `: b(' x')table(' ')`},
		{`: <table <p "x <tr "y .`, `: p('x')'y'table(tbody(tr()))`},
		{`: "w <table "x .`, `: 'wx'table()`},
		{`: "w <table "x "y <b "z </b "v .`, `: 'wxy'b('z')'v'table()`},
		{`: <table <template "x <tr "y .`, `: table(template({'x'tr()'y'}))`},
		{`: <table "é_ð "_ .`, `: 'é ð 'table()`},
		{`: <table <i "x <table "y .`, `: i('x')table()i('y')table()`},
	})
}

func TestInTableBody(t *testing.T) {
	mustShow(t, false, []row{
		{`: <table <tbody <tr </tbody "x <tr .`, `: 'x'table(tbody(tr())tbody(tr()))`},
		{`: <table <tbody </tbody <tr .`, `: table(tbody()tbody(tr()))`},
		{`: <table <tbody </thead </tfoot <tr .`, `: table(tbody(tr()))`},
		{`: <table <thead <tbody .`, `: table(thead()tbody())`},
		{`: <table <thead <thead .`, `: table(thead()thead())`},
		{`: <table <thead </table "x .`, `: table(thead())'x'`},
		{`: <table <tfoot </table "x .`, `: table(tfoot())'x'`},
		{`: <table <tbody </table "x .`, `: table(tbody())'x'`},
		{`: <table <tbody </table "x .`, `: table(tbody())'x'`},
		{`: <table <tbody </body </html </td </th </tr <tr .`, `: table(tbody(tr()))`},
		{`: <table <tbody <p <tr .`, `: p()table(tbody(tr()))`},
		{`: <table <tbody <b <td "x .`, `: b()table(tbody(tr(td('x'))))`},
		{`: <table <tbody <table .`, `: table(tbody())table()`},
		{`: <table <tbody <form <style </style <input,type=hidden .`, `: table(tbody(form()style()input.type=hidden()))`},
		{`: <template <tr </tbody <td .`, `: template({tr(td())})`},
		{`: <template <tr </table <tbody "x .`, `: template({tr()'x'})`},
	})
}

func TestInRow(t *testing.T) {
	mustShow(t, false, []row{
		{`: <table <tr <td <tr .`, `: table(tbody(tr(td())tr()))`},
		{`: <table <tr </tr <td .`, `: table(tbody(tr()tr(td())))`},
		{`: <table <tr </tr </tr <tr .`, `: table(tbody(tr()tr()))`},
		{`: <table <tr </table "x .`, `: table(tbody(tr()))'x'`},
		{`: <table <tr </tbody <tr .`, `: table(tbody(tr())tbody(tr()))`},
		{`: <table <thead <tr </thead <tr .`, `: table(thead(tr())tbody(tr()))`},
		{`: <table <tfoot <tr </tfoot <td .`, `: table(tfoot(tr())tbody(tr(td())))`},
		{`: <table <tr <object </tbody <tr "x .`, `: object()'x'table(tbody(tr())tbody(tr()))`},
		{`: <table <tr </thead </tfoot <td .`, `: table(tbody(tr(td())))`},
		{`: <table <tr <tbody .`, `: table(tbody(tr())tbody())`},
		{`: <table <tr <tfoot .`, `: table(tbody(tr())tfoot())`},
		{`: <table <tr <tr,a .`, `: table(tbody(tr()tr.a()))`},
		{`: <table <tr </body </html </td </th <td .`, `: table(tbody(tr(td())))`},
		{`: <table <tr <b "x <td "y .`, `: b('x')table(tbody(tr(td('y'))))`},
		{`: <table <tr <p "x </tr "y .`, `: p('x')'y'table(tbody(tr()))`},
		{`: <template <td </tr <tr "x .`, `: template({td()'x'})`},
		{`: <template <td </td </tbody </table <td .`, `: template({td()td()})`},
		{`: <table <tr <table <tr .`, `: table(tbody(tr()))table(tbody(tr()))`},
	})
}

func TestInCell(t *testing.T) {
	mustShow(t, false, []row{
		{`: <table <td "1 </td "2 <td .`, `: '2'table(tbody(tr(td('1')td())))`},
		{`: <table <td <p </td <td .`, `: table(tbody(tr(td(p())td())))`},
		{`: <table <td <p </th <td .`, `: table(tbody(tr(td(p())td())))`},
		{`: <table <th <b </th <td "x .`, `: table(tbody(tr(th(b())td('x'))))`},
		{`: <table <td <b <td "x .`, `: table(tbody(tr(td(b())td('x'))))`},
		{`: <table <td <b <tr "x .`, `: 'x'table(tbody(tr(td(b()))tr()))`},
		{`: <table <td <li <tbody .`, `: table(tbody(tr(td(li())))tbody())`},
		{`: <table <td <dd <thead .`, `: table(tbody(tr(td(dd())))thead())`},
		{`: <table <td <tfoot .`, `: table(tbody(tr(td()))tfoot())`},
		{`: <table <td <th .`, `: table(tbody(tr(td()th())))`},
		{`: <table <td <b </table "x .`, `: table(tbody(tr(td(b()))))'x'`},
		{`: <table <td <p </tr <td .`, `: table(tbody(tr(td(p()))tr(td())))`},
		{`: <table <td </tbody <tr .`, `: table(tbody(tr(td()))tbody(tr()))`},
		{`: <table <thead <td </thead <tr .`, `: table(thead(tr(td()))tbody(tr()))`},
		{`: <table <tfoot <td </tfoot "x .`, `: 'x'table(tfoot(tr(td())))`},
		{`: <table <td <object </tbody <tr .`, `: table(tbody(tr(td(object())))tbody(tr()))`},
		{`: <table <td <object <tr .`, `: table(tbody(tr(td(object()))tr()))`},
		{`: <table <td </thead </tfoot "x .`, `: table(tbody(tr(td('x'))))`},
		{`: <table <td </body </html "x .`, `: table(tbody(tr(td('x'))))`},
		{`: <table <td <div </td "x .`, `: 'x'table(tbody(tr(td(div()))))`},
		{`: <table <td <object <td .`, `: table(tbody(tr(td(object())td())))`},
		{`: <table <td <object <b </td "x .`, `: 'x'table(tbody(tr(td(object(b())))))`},
		{`: <b <table <td "x </td "y .`, `: b('y'table(tbody(tr(td('x')))))`},
		{`: <table <td <table <td </td </table "x </td .`, `: table(tbody(tr(td(table(tbody(tr(td())))'x'))))`},
		{`: <table <td <table </td "x .`, `: table(tbody(tr(td('x'table()))))`},
		{`: <table <td <svg <g <td .`, `: table(tbody(tr(td(~svg(~g(~td()))))))`},
		{`: <table <td <svg <desc <td "x .`, `: table(tbody(tr(td(~svg(~desc()))td('x'))))`},
		{`: <table <td <col <caption <head "x .`, `: table(tbody(tr(td(caption('x')))))`},
		{`: <table <td <form "x </form .`, `: table(tbody(tr(td(form('x')))))`},
	})
}

func TestTemplates(t *testing.T) {
	mustShow(t, false, []row{
		{`: <template,a "x <tr <td "y </template "z .`, `: template.a({'x'tr(td('y'))})'z'`},
		{`: <template <td "1 <td "2 .`, `: template({td('1')td('2')})`},
		{`: <template <tr <td </template .`, `: template({tr(td())})`},
		{`: <template <tbody <tr </template "x .`, `: template({tbody(tr())})'x'`},
		{`: <template <thead </thead <tfoot .`, `: template({thead()tfoot()})`},
		{`: <template <col <p "x .`, `: template({p('x')})`},
		{`: <template <p </div "x <td .`, `: template({p('x')})`},
		{`: <template </p </x "y .`, `: template({'y'})`},
		{`: <template !x -c "_ <title "x </title <meta <style </style <script </script <base <link .`, `: template({!c!' 'title('x')meta()style()script()base()link()})`},
		{`: <div <template <div </template </div "x .`, `: div(template({div()}))'x'`},
		{`: <template <template <td </template <td </template "x .`, `: template({template({td()})td()})'x'`},
		{`: <template <template <p "x .`, `: template({template({p('x')})})`},
		{`: <template <template <tr </template </template </template "x .`, `: template({template({tr()})})'x'`},
		{`: <b <template </b "x </template "y .`, `: b(template({'x'})'y')`},
		{`: <template <b </template "x .`, `: template({b()})'x'`},
		{`: <template <dd <td <p </template "x .`, `: template({dd(p())})'x'`},
		{`: <template <li <p <tr </template .`, `: template({li(p())})`},
		{`: </template "x .`, `: 'x'`},
		{`: <table <template <tr </template <tr .`, `: table(template({tr()})tbody(tr()))`},
		{`: <table <template <table <td </template <td .`, `: table(template({table(tbody(tr(td())))})tbody(tr(td())))`},
		{`: <table <tr <template <td "x </template <td .`, `: table(tbody(tr(template({td('x')})td())))`},
		{`: <table <template "x "_ <tr .`, `: table(template({'x 'tr()}))`},
		{`: <template <tr "x <td .`, `: template({tr(td())'x'})`},
		{`: <template <tr <b "_ "x <td .`, `: template({tr(td())b(' x')})`},
		{`: <template <tbody "_ <b "x .`, `: template({tbody(' ')b('x')})`},
		{`: <template <td "x </table </tr "y .`, `: template({td('xy')})`},
		{`: <template <table "x .`, `: template({'x'table()})`},
		{`: <template <table <td <template <tr "x .`, `: template({table(tbody(tr(td(template({tr()'x'})))))})`},
		{`: <template <table </template "x .`, `: template({table()})'x'`},
		{`: <template .`, `: template({})`},
		{`: <p <template <table <tr <td <template <p "x .`, `: p(template({table(tbody(tr(td(template({p('x')})))))}))`},
		{`!html <head <template <td .`, `?html?html(head(template({td()}))body())`},
		{`!html </head <template <td "x .`, `?html?html(head(template({td('x')}))body())`},
		{`: <template <svg <template <p "x </template "y .`, `: template({~svg(~template())p('x')})'y'`},
		{`: <svg <template <p "x .`, `: ~svg(~template())p('x')`},
		{`: <svg <template "x </template "y .`, `: ~svg(~template('x')'y')`},
		{`: <svg <title <template <td "x </template "y .`, `: ~svg(~title(template({td('x')})'y'))`},
		{`: <template -c -d </template -e .`, `: template({!c!!d!})!e!`},
		{`: <template <table <template -c </template "x .`, `: template({'x'table(template({!c!}))})`},
	})
}

// lastTable tells the last table that was made.
func lastTable(t *testing.T, m *Mason) int {
	t.Helper()
	for n := m.Arena().Len() - 1; n > 0; n-- {
		if x, _ := m.Arena().Node(n); x.Kind == api.Element && x.Name == "table" {
			return n
		}
	}
	t.Fatal("no table")
	return 0
}

// hanging are rows of tokens ahead of which the last table that they begin with was taken away, and put back at the end of where it hung, behind all that is fed: what comes ahead of a table that hangs nowhere comes under the open element below it.
var hanging = []struct{ way, in, want string }{
	{`: <div <table`, `"x <q "y </q .`, `: div('x'q('y')table())`},
	{`: <div <table`, `"x .`, `: div('x'table())`},
	{`: <div <table`, `"_ .`, `: div(table(' '))`},
	{`: <div <table`, `-c <tr -d <td "x .`, `: div(table(!c!tbody(tr(!d!td('x')))))`},
	{`: <div "w <table`, `"x -c .`, `: div('wx'table(!c!))`},
	{`: <div "w <table <tbody <tr`, `"x <hr .`, `: div('wx'hr()table(tbody(tr())))`},
	{`: <b <table`, `"x </b "y .`, `: b('xy'table())`},
	{`: <div <table`, `<b <p </b "x .`, `: div(b()p(b()'x')table())`},
	{`: <table`, `"x <q .`, `: 'x'q()table()`},
	{`: <div <template <table`, `"x <q .`, `: div(template({'x'q()table()}))`},
	{`: <template "w <table <tr`, `"x <q .`, `: template({'wx'q()table(tbody(tr()))})`},
	{`: <template <p "w <table <tr`, `"x <q .`, `: template({p('w')'x'q()table(tbody(tr()))})`},
	{`: <table <td <table`, `"x <q .`, `: table(tbody(tr(td('x'q()table()))))`},
	{`: <div <table <template <tr`, `"x <q .`, `: div(table(template({tr()'x'q()})))`},
	{`: <template <table <template <tr`, `"x <q .`, `: template({table(template({tr()'x'q()}))})`},
	{`: <svg <desc <table`, `"x <q .`, `: ~svg(~desc('x'q()table()))`},
}

func TestTablesThatHangNowhere(t *testing.T) {
	for _, c := range hanging {
		_, l := row{in: c.way}.read()
		m := engine(t, false, nil)
		for _, x := range l {
			m.Feed(x)
		}
		table := lastTable(t, m)
		parent, _ := m.Arena().Parent(table)
		m.Arena().Detach(table)
		for _, x := range tokens(c.in) {
			m.Feed(x)
		}
		m.Arena().Append(parent, table)
		want := row{want: c.want}.wanted()
		if got := m.shown(); got != want {
			t.Errorf("%s, and behind that %s:\n%s, want\n%s", c.way, c.in, got, want)
		}
	}
}

// TestTablesThatHangElsewhere: what comes ahead of a table comes where it hangs now.
func TestTablesThatHangElsewhere(t *testing.T) {
	m := engine(t, false, nil)
	for _, x := range tokens(`!html <body <p "1 </p <div <table <tr`) {
		m.Feed(x)
	}
	table := lastTable(t, m)
	m.Arena().Detach(table)
	m.Arena().Append(2, table)
	for _, x := range tokens(`"x <q .`) {
		m.Feed(x)
	}
	if x, _ := m.Arena().Node(2); x.Name != "html" {
		t.Fatalf("node 2 is %v", x)
	}
	if got, want := m.shown(), "?html?html(head()body(p('1')div())'x'q()table(tbody(tr())))"; got != want {
		t.Errorf("%s, want %s", got, want)
	}
}
