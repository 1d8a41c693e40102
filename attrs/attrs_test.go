package attrs

import (
	"slices"
	"strconv"
	"strings"
	"testing"
	"unsafe"

	"arbour/api"
	"arbour/names"
)

// list reads "a=1 b=2"; a name or a value may be empty.
func list(s string) []api.Attr {
	var l []api.Attr
	for _, one := range strings.Fields(s) {
		name, value, _ := strings.Cut(one, "=")
		l = append(l, api.Attr{Name: name, Value: value})
	}
	return l
}

func show(l []api.Attr) string {
	var out []string
	for _, a := range l {
		out = append(out, strconv.Quote(a.Name)+"="+strconv.Quote(a.Value))
	}
	return "[" + strings.Join(out, " ") + "]"
}

func mustList(t *testing.T, what string, got, want []api.Attr) {
	t.Helper()
	if !slices.Equal(got, want) {
		t.Errorf("%s: %s, want %s", what, show(got), show(want))
	}
}

func mustGet(t *testing.T, l []api.Attr, name, want string, there bool) {
	t.Helper()
	if got, ok := Get(l, name); got != want || ok != there {
		t.Errorf("Get(%s, %q): %q, %v, want %q, %v", show(l), name, got, ok, want, there)
	}
}

func mustAdd(t *testing.T, l, a, want string) {
	t.Helper()
	mustList(t, "Add("+l+", "+a+")", Add(list(l), list(a)[0]), list(want))
}

func mustUnique(t *testing.T, l, want string) {
	t.Helper()
	mustList(t, "Unique("+l+")", Unique(list(l)), list(want))
}

func mustMore(t *testing.T, l, m, want string) {
	t.Helper()
	mustList(t, "More("+l+", "+m+")", More(list(l), list(m)), list(want))
}

func mustForeign(t *testing.T, l, want string) {
	t.Helper()
	mustList(t, "Foreign("+l+")", Foreign(list(l)), list(want))
}

func mustSame(t *testing.T, a, b []api.Attr, want bool) {
	t.Helper()
	if got := Same(a, b); got != want {
		t.Errorf("Same(%s, %s): %v", show(a), show(b), got)
	}
}

func mustAlike(t *testing.T, a, b []api.Attr, want bool) {
	t.Helper()
	if got := Alike(a, b); got != want {
		t.Errorf("Alike(%s, %s): %v", show(a), show(b), got)
	}
}

// The promise's words, without regard to time.

func plainHas(l []api.Attr, name string) bool {
	return slices.ContainsFunc(l, func(a api.Attr) bool { return a.Name == name })
}

func plainMore(l, m []api.Attr) []api.Attr {
	all := slices.Clone(l)
	for _, a := range m {
		if !plainHas(all, a.Name) {
			all = append(all, a)
		}
	}
	return all
}

func plainUnique(l []api.Attr) []api.Attr {
	var all []api.Attr
	for i, a := range l {
		if !plainHas(l[:i], a.Name) {
			all = append(all, a)
		}
	}
	return all
}

func plainAlike(a, b []api.Attr) bool {
	x, y := plainUnique(a), plainUnique(b)
	for _, one := range x {
		if !slices.Contains(y, one) {
			return false
		}
	}
	for _, one := range y {
		if !slices.Contains(x, one) {
			return false
		}
	}
	return true
}

func plainForeign(l []api.Attr) []api.Attr {
	from := strings.Fields("foreignobject viewbox clippath lineargradient textpath preserveaspectratio")
	to := strings.Fields("foreignObject viewBox clipPath linearGradient textPath preserveAspectRatio")
	all := slices.Clone(l)
	for i, a := range all {
		if at := slices.Index(from, a.Name); at >= 0 {
			all[i].Name = to[at]
		}
	}
	return all
}

// oddTexts are empty, no right UTF-8, or look like others.
var oddTexts = []string{"", " ", "\x00", "a", "A", "\xFF", "\xFE", "\uFFFD", "\xC3", "\u00e9", "e\u0301", "\xED\xA0\x80", "\u212a", "k", "viewbox", "viewBox", "a=1"}

// shortLists are all lists of up to n of these.
func shortLists(of []api.Attr, n int) [][]api.Attr {
	all := [][]api.Attr{nil}
	from := 0
	for range n {
		to := len(all)
		for _, l := range all[from:to] {
			for _, a := range of {
				all = append(all, append(slices.Clone(l), a))
			}
		}
		from = to
	}
	return all
}

// few are three names, each with two values; one of them is empty, one is no right UTF-8.
func few() []api.Attr {
	var l []api.Attr
	for _, name := range []string{"a", "", "\xFF"} {
		l = append(l, api.Attr{Name: name, Value: "1"}, api.Attr{Name: name, Value: ""})
	}
	return l
}

func TestRunOfTheChapter(t *testing.T) {
	mustMore(t, "a=1", "a=2 b=3", "a=1 b=3")
}

func TestExamplesOfTheChapter(t *testing.T) {
	mustGet(t, list("a=1"), "b", "", false)
	mustGet(t, nil, "b", "", false)
	mustAlike(t, list("a=1 b=2"), list("b=2 a=1"), true)
}

// P7.1: a name that is there once, several times with unlike values, not at all; in each place.
func TestGet(t *testing.T) {
	l := list("a=1 b=2 a=3 c= b=2 a=")
	mustGet(t, l, "a", "1", true)
	mustGet(t, l, "b", "2", true)
	mustGet(t, l, "c", "", true)
	mustGet(t, l, "d", "", false)
	mustGet(t, l, "A", "", false)
	mustGet(t, l, "ab", "", false)
	mustGet(t, l, "1", "", false)
	mustGet(t, l, "", "", false)
	mustGet(t, l[2:], "a", "3", true)
	mustGet(t, l[5:], "a", "", true)
	mustGet(t, list("a= a=1"), "a", "", true)
	mustGet(t, list("x=1 y=2 z=3"), "z", "3", true)
}

// P7.1: the empty name is one as others are.
func TestGetOfTheEmptyName(t *testing.T) {
	mustGet(t, list("a=1 =2 =3"), "", "2", true)
	mustGet(t, []api.Attr{{}}, "", "", true)
	mustGet(t, []api.Attr{}, "", "", false)
	mustGet(t, nil, "", "", false)
}

// P7.1: every odd text as a name among all others.
func TestGetOfOddNames(t *testing.T) {
	var l []api.Attr
	for i, name := range oddTexts {
		mustGet(t, l, name, "", false)
		l = append(l, api.Attr{Name: name, Value: strconv.Itoa(i)})
	}
	for i, name := range oddTexts {
		mustGet(t, l, name, strconv.Itoa(i), true)
		mustGet(t, []api.Attr{{Name: "x", Value: name}}, "x", name, true)
	}
}

// P7.1: a new name, and one that is there, with the same value and with another.
func TestAdd(t *testing.T) {
	mustAdd(t, "", "a=1", "a=1")
	mustAdd(t, "a=1", "b=2", "a=1 b=2")
	mustAdd(t, "a=1", "a=1", "a=1")
	mustAdd(t, "a=1", "a=2", "a=1")
	mustAdd(t, "a=1 b=2 c=3", "c=4", "a=1 b=2 c=3")
	mustAdd(t, "a=1", "A=2", "a=1 A=2")
	mustAdd(t, "a=1", "b=1", "a=1 b=1")
	mustAdd(t, "a=1 b=2 a=3", "b=9", "a=1 b=2 a=3")
	mustAdd(t, "a=1 b=2 a=3", "c=9", "a=1 b=2 a=3 c=9")
	mustAdd(t, "a=1", "=2", "a=1 =2")
	mustAdd(t, "=1 a=2", "=3", "=1 a=2")
	mustList(t, "Add to nil", Add(nil, api.Attr{}), []api.Attr{{}})
	mustList(t, "Add to an empty list", Add([]api.Attr{}, api.Attr{}), []api.Attr{{}})
	mustList(t, "Add of what is there", Add([]api.Attr{{}}, api.Attr{}), []api.Attr{{}})
}

// P7.1: lists without, and with, names that come again, side by side and apart.
func TestUnique(t *testing.T) {
	mustUnique(t, "", "")
	mustUnique(t, "a=1", "a=1")
	mustUnique(t, "c=1 a=2 b=3", "c=1 a=2 b=3")
	mustUnique(t, "a=1 a=1", "a=1")
	mustUnique(t, "a=1 a=2", "a=1")
	mustUnique(t, "a=2 a=1 b=1", "a=2 b=1")
	mustUnique(t, "a=1 b=2 a=3", "a=1 b=2")
	mustUnique(t, "a=1 b=2 a=1 b=2 c=3 a=1", "a=1 b=2 c=3")
	mustUnique(t, "b=2 a=1 b=1 a=2 b=3", "b=2 a=1")
	mustUnique(t, "a=1 A=1 a=2 A=2", "a=1 A=1")
	mustUnique(t, "a= a=1 =1 =2", "a= =1")
	mustUnique(t, "a=x b=x", "a=x b=x")
}

// P7.1
func TestMore(t *testing.T) {
	mustMore(t, "", "", "")
	mustMore(t, "a=1", "", "a=1")
	mustMore(t, "", "a=1", "a=1")
	mustMore(t, "", "a=1 a=2", "a=1")
	mustMore(t, "a=1 b=2", "b=3 a=4", "a=1 b=2")
	mustMore(t, "a=1 b=2", "c=3 a=4 d=5", "a=1 b=2 c=3 d=5")
	mustMore(t, "a=1", "b=2 b=3 c=4", "a=1 b=2 c=4")
	mustMore(t, "a=1", "c=4 b=2 c=5", "a=1 c=4 b=2")
	mustMore(t, "a=1", "A=2", "a=1 A=2")
	mustMore(t, "=1", "=2 a=3", "=1 a=3")
}

// P7.1: what the first list has again stays.
func TestMoreKeepsTheFirstList(t *testing.T) {
	mustMore(t, "a=1 a=1", "", "a=1 a=1")
	mustMore(t, "a=1 b=2 a=3", "b=4 c=5 a=6", "a=1 b=2 a=3 c=5")
	mustMore(t, "a=1 a=2", "a=3 b=1 b=1", "a=1 a=2 b=1")
}

// P7.1: every odd text as a name and as a value.
func TestListsOfOddTexts(t *testing.T) {
	var l, other []api.Attr
	for i, text := range oddTexts {
		a := api.Attr{Name: text, Value: oddTexts[len(oddTexts)-1-i]}
		mustList(t, "Add", Add(l, a), append(slices.Clone(l), a))
		l = append(l, a)
		other = append(other, api.Attr{Name: text, Value: a.Value + "x"})
		mustList(t, "Add again", Add(l, other[i]), l)
	}
	mustList(t, "Unique", Unique(l), l)
	mustList(t, "Unique of it twice", Unique(append(slices.Clone(l), other...)), l)
	mustList(t, "More of none", More(l, nil), l)
	mustList(t, "More of none yet", More(nil, l), l)
	mustList(t, "More of all", More(l, other), l)
	mustList(t, "More of all", More(other, l), other)
	turned := slices.Clone(l)
	slices.Reverse(turned)
	mustSame(t, l, turned, false)
	mustAlike(t, l, turned, true)
	for i := range l {
		one := slices.Clone(turned)
		one[len(l)-1-i] = other[i]
		mustAlike(t, l, one, false)
		mustAlike(t, one, l, false)
		mustAlike(t, l, slices.Delete(slices.Clone(l), i, i+1), false)
	}
}

// P7.1, R4: nil and empty lists.
func TestSameAndAlikeOfNone(t *testing.T) {
	for _, none := range [][]api.Attr{nil, {}, make([]api.Attr, 0, 3), list("a=1")[:0]} {
		mustSame(t, nil, none, true)
		mustSame(t, none, nil, true)
		mustAlike(t, nil, none, true)
		mustAlike(t, none, nil, true)
		mustSame(t, none, []api.Attr{{}}, false)
		mustSame(t, []api.Attr{{}}, none, false)
		mustAlike(t, none, []api.Attr{{}}, false)
		mustAlike(t, []api.Attr{{}}, none, false)
		for _, got := range [][]api.Attr{Unique(none), More(none, none), More(nil, none), More(none, nil), Foreign(none)} {
			mustList(t, "of none", got, nil)
		}
		mustList(t, "Add to none", Add(none, api.Attr{Name: "b"}), list("b"))
	}
}

// P7.1
func TestSame(t *testing.T) {
	for _, c := range []struct {
		a, b string
		want bool
	}{
		{"a=1", "a=1", true}, {"a=1 b=2 a=3", "a=1 b=2 a=3", true}, {"a=1 b=2", "b=2 a=1", false}, {"a=1", "a=2", false}, {"a=1", "b=1", false},
		{"a=1", "A=1", false}, {"a=x", "a=X", false}, {"a=1 b=2", "a=1", false}, {"a=1 a=1", "a=1", false}, {"a=1 b=2", "a=1 b=3", false}, {"a=b", "b=a", false}, {"a=1", "a=", false}, {"=1", "a=1", false},
	} {
		mustSame(t, list(c.a), list(c.b), c.want)
		mustSame(t, list(c.b), list(c.a), c.want)
	}
}

// P7.1
func TestAlike(t *testing.T) {
	for _, c := range []struct {
		a, b string
		want bool
	}{
		{"a=1", "a=1", true}, {"a=1 b=2 c=3", "c=3 a=1 b=2", true}, {"a=1 a=2", "a=1", true}, {"a=1 b=2 a=3", "b=2 a=1", true}, {"a=1 a=2 b=3", "b=3 b=4 a=1 b=5", true},
		{"a=1 a=2", "a=2 a=1", false}, {"a=1 a=2", "a=2", false}, {"a=1", "a=2", false}, {"a=1", "b=1", false}, {"a=1 c=2", "a=1 b=2", false}, {"a=1 b=1", "a=1", false}, {"a=1 a=1", "a=1 b=1", false},
		{"a=1", "A=1", false}, {"a=x", "a=X", false}, {"a=1 b=2", "a=2 b=1", false}, {"a=1", "a=", false}, {"=1", "=1 =2", true}, {"=1", "=2", false}, {"a=b", "b=a", false},
	} {
		mustAlike(t, list(c.a), list(c.b), c.want)
		mustAlike(t, list(c.b), list(c.a), c.want)
	}
}

// P7.1: everything of every short list, against the promise's words.
func TestEachShortList(t *testing.T) {
	of := few()
	for _, l := range shortLists(of, 4) {
		mustList(t, "Unique("+show(l)+")", Unique(l), plainUnique(l))
		mustList(t, "Foreign("+show(l)+")", Foreign(l), l)
		for _, a := range of {
			mustList(t, "Add("+show(l)+", "+show([]api.Attr{a})+")", Add(l, a), plainMore(l, []api.Attr{a}))
			at := slices.IndexFunc(l, func(x api.Attr) bool { return x.Name == a.Name })
			if at < 0 {
				mustGet(t, l, a.Name, "", false)
			} else {
				mustGet(t, l, a.Name, l[at].Value, true)
			}
		}
	}
}

// P7.1: each pair of short lists, of a list with itself too.
func TestEachPairOfShortLists(t *testing.T) {
	all := shortLists(few(), 3)
	for _, l := range all {
		for _, m := range all {
			if got := More(l, m); !slices.Equal(got, plainMore(l, m)) {
				t.Errorf("More(%s, %s): %s", show(l), show(m), show(got))
			}
			mustSame(t, l, m, slices.Equal(l, m))
			mustAlike(t, l, m, plainAlike(l, m))
		}
		mustList(t, "More of itself", More(l, l), l)
	}
}

// P7.1: each name that is turned, those already so, and others; values stay.
func TestForeign(t *testing.T) {
	mustForeign(t, "foreignobject=1 viewbox=2 clippath=3 lineargradient=4 textpath=5 preserveaspectratio=6", "foreignObject=1 viewBox=2 clipPath=3 linearGradient=4 textPath=5 preserveAspectRatio=6")
	mustForeign(t, "foreignObject=1 viewBox=2 clipPath=3 linearGradient=4 textPath=5 preserveAspectRatio=6", "foreignObject=1 viewBox=2 clipPath=3 linearGradient=4 textPath=5 preserveAspectRatio=6")
	mustForeign(t, "a=1 href=2 VIEWBOX=3 ViewBox=4 viewbox2=5 xviewbox=6 =7 xlink:href=8", "a=1 href=2 VIEWBOX=3 ViewBox=4 viewbox2=5 xviewbox=6 =7 xlink:href=8")
	mustForeign(t, "viewbox=viewbox a=viewbox clippath=", "viewBox=viewbox a=viewbox clipPath=")
}

// P7.1: Foreign tells each one, those too that come to one name.
func TestForeignKeepsAll(t *testing.T) {
	mustForeign(t, "viewbox=1 viewBox=2 viewbox=3 a=4 a=5", "viewBox=1 viewBox=2 viewBox=3 a=4 a=5")
}

// P7.1: Foreign of odd names, against names.Fix and the names written out.
func TestForeignOfOddNames(t *testing.T) {
	var l []api.Attr
	for _, text := range oddTexts {
		for _, name := range []string{text, "viewbox" + text, text + "clippath", strings.ToUpper("textpath") + text} {
			l = append(l, api.Attr{Name: name, Value: text})
		}
	}
	got := Foreign(l)
	mustList(t, "Foreign", got, plainForeign(l))
	for i, a := range l {
		if want := names.Fix(a.Name); got[i].Name != want {
			t.Errorf("Foreign of %q: %q, want %q", a.Name, got[i].Name, want)
		}
	}
}

// R5: what stands in the spare room is no part of a list.
func TestSpareRoomIsNotRead(t *testing.T) {
	whole := list("a=1 b=2 c=3 b=4")
	l := whole[:1]
	mustGet(t, l, "b", "", false)
	mustList(t, "Add", Add(l, api.Attr{Name: "b", Value: "9"}), list("a=1 b=9"))
	mustList(t, "Unique", Unique(l), list("a=1"))
	mustList(t, "More", More(l, whole[2:3]), list("a=1 c=3"))
	mustList(t, "Foreign", Foreign(l), list("a=1"))
	mustSame(t, l, list("a=1"), true)
	mustSame(t, l, whole[:2], false)
	mustAlike(t, l, list("a=1"), true)
	mustAlike(t, l, whole[:2], false)
}

// answers are all lists that are told of l and m.
func answers(l, m []api.Attr) map[string][]api.Attr {
	return map[string][]api.Attr{
		"Add of a new one": Add(l, api.Attr{Name: "new", Value: "1"}), "Add of one that is there": Add(l, api.Attr{Name: "a", Value: "1"}),
		"Unique": Unique(l), "More": More(l, m), "More of none": More(l, nil), "More to none": More(nil, l), "More of itself": More(l, l), "Foreign": Foreign(l),
	}
}

// givenLists have spare room with something in it.
func givenLists() (l, m []api.Attr) {
	l = list("a=1 viewbox=2 a=3 b=4 spare=5 room=6 new=7")
	m = list("c=1 a=2 c=3 clippath=4 spare=5 room=6")
	return l[:4], m[:4]
}

// R2: what is handed in is left as it was, its spare room included.
func TestGivenListsStay(t *testing.T) {
	l, m := givenLists()
	wholeL, wholeM := slices.Clone(l[:cap(l)]), slices.Clone(m[:cap(m)])
	Get(l, "a")
	Get(l, "none")
	Same(l, m)
	Same(l, l)
	Alike(l, m)
	Alike(l, l)
	answers(l, m)
	mustList(t, "l, its room too", l[:cap(l)], wholeL)
	mustList(t, "m, its room too", m[:cap(m)], wholeM)
}

// fill writes into all that a list has, its spare room too.
func fill(l []api.Attr, with string) {
	l = l[:cap(l)]
	for i := range l {
		l[i] = api.Attr{Name: with, Value: with}
	}
}

// R2: an answer is new memory, its spare room too: neither what was handed in nor another answer is seen in it.
func TestAnswersAreNewMemory(t *testing.T) {
	l, m := givenLists()
	wholeL, wholeM := slices.Clone(l[:cap(l)]), slices.Clone(m[:cap(m)])
	kept := answers(l, m)
	want := map[string][]api.Attr{}
	for what, got := range kept {
		want[what] = slices.Clone(got)
	}
	for _, got := range answers(l, m) {
		fill(got, "written")
	}
	mustList(t, "l, its room too", l[:cap(l)], wholeL)
	mustList(t, "m, its room too", m[:cap(m)], wholeM)
	fill(l, "turned")
	fill(m, "turned")
	for what, got := range kept {
		mustList(t, what, got, want[what])
	}
}

// R2: a list without spare room, and one that is told as it was, are copied, too.
func TestAnswersOfFullLists(t *testing.T) {
	for _, s := range []string{"a=1", "a=1 b=2", "x=1 y=2 z=3"} {
		l := slices.Clip(list(s))
		for what, got := range answers(l, nil) {
			fill(got, "written")
			mustList(t, what, l, list(s))
		}
	}
}

// places are the addresses of a list's texts; empty ones have none.
func places(l []api.Attr) []*byte {
	var all []*byte
	for _, a := range l {
		for _, s := range []string{a.Name, a.Value} {
			if s != "" {
				all = append(all, unsafe.StringData(s))
			}
		}
	}
	return all
}

// R2: nor do answers share texts with what was handed in.
func TestTextsAreNewMemory(t *testing.T) {
	l, m := givenLists()
	given := append(places(l), places(m)...)
	for what, got := range answers(l, m) {
		for _, p := range places(got) {
			if slices.Contains(given, p) {
				t.Errorf("%s: a text is what was handed in", what)
			}
		}
	}
	a := list("new=one")[0]
	got := Add(nil, a)
	if unsafe.StringData(got[0].Name) == unsafe.StringData(a.Name) || unsafe.StringData(got[0].Value) == unsafe.StringData(a.Value) {
		t.Error("Add: a text is what was handed in")
	}
	if value, _ := Get(l, "viewbox"); unsafe.StringData(value) == unsafe.StringData(l[1].Value) {
		t.Error("Get: the value is what was handed in")
	}
}

// R1, R4: long lists end, and in time; the same is told each time.
func TestLong(t *testing.T) {
	n := 1 << 17
	var l, again []api.Attr
	for i := range n {
		l = append(l, api.Attr{Name: strconv.Itoa(i), Value: "x"})
		again = append(again, api.Attr{Name: strconv.Itoa(n - 1 - i), Value: "y"})
	}
	twice := append(slices.Clone(l), again...)
	for range 2 {
		if !slices.Equal(Unique(l), l) || !slices.Equal(Unique(twice), l) {
			t.Error("Unique of a long list")
		}
		if !slices.Equal(More(l, again), l) || !slices.Equal(More(nil, twice), l) || !slices.Equal(More(l[:n/2], l[n/2:]), l) {
			t.Error("More of long lists")
		}
	}
	turned := slices.Clone(l)
	slices.Reverse(turned)
	if !Alike(l, turned) || !Alike(twice, turned) || Alike(l, again) || Alike(l, l[1:]) || Same(l, turned) || !Same(l, l) {
		t.Error("Same or Alike of long lists")
	}
	mustGet(t, l, strconv.Itoa(n-1), "x", true)
	mustGet(t, l, strconv.Itoa(n), "", false)
	if got := Add(l, api.Attr{Name: "new"}); len(got) != n+1 || got[n].Name != "new" {
		t.Error("Add to a long list")
	}
	if !slices.Equal(Foreign(l), l) {
		t.Error("Foreign of a long list")
	}
}

// R1: long texts.
func TestLongTexts(t *testing.T) {
	long := strings.Repeat("viewbox", 1<<18)
	l := []api.Attr{{Name: long, Value: long}, {Name: long + "x", Value: long}, {Name: long, Value: "other"}}
	mustGet(t, l, long, long, true)
	if !Same(Unique(l), l[:2]) || !Same(Foreign(l), l) || !Same(More(l[:1], l), l[:2]) || !Alike(l, l[:2]) || Same(l[:1], l[1:2]) || Alike(l[:1], l[2:]) {
		t.Error("long texts")
	}
}
