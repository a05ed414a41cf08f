package json

import (
	"fmt"
	"strings"
	"testing"

	"docket/api"
)

func chars(n int, c byte) string { return strings.Repeat(string([]byte{c}), n) }

func wantCheck(t *testing.T, v api.Json, want api.Errno) {
	t.Helper()
	if e := Check(v); e != want {
		t.Errorf("Check of %.200s is %d, not %d", shown(v), e, want)
	}
	if e := modelCheck(v); e != want {
		t.Errorf("the model tells %d of %.200s, not %d", e, shown(v), want)
	}
	// Each value that may not be is refused by Text, too, and for the same reason.
	if s, e := Text(v); want != api.OK && (s != "" || e != want) {
		t.Errorf("Text of %.200s is %q, %d", shown(v), s, e)
	}
}

func wantText(t *testing.T, v api.Json, want string, e api.Errno) {
	t.Helper()
	if s, got := Text(v); s != want || got != e {
		t.Errorf("Text of %.200s is %.200q, %d, not %.200q, %d", shown(v), s, got, want, e)
	}
	if s, got := modelText(v); s != want || got != e {
		t.Errorf("the model writes %.200s as %.200q, %d", shown(v), s, got)
	}
	if e == api.OK {
		if v2, at, e := Read(want); e != api.OK || at != 0 || !modelSame(v, v2) {
			t.Errorf("%.200q is read as %.200s, %d, %d", want, shown(v2), at, e)
		}
	}
}

func TestCheckOfEachKind(t *testing.T) {
	for _, c := range kinds() {
		wantCheck(t, c.v, api.OK)
	}
	for k := 7; k < 256; k++ {
		wantCheck(t, api.Json{Kind: uint8(k)}, api.ErrBad)
		wantCheck(t, list(whole(1), api.Json{Kind: uint8(k)}), api.ErrBad)
		wantCheck(t, object("a", api.Json{Kind: uint8(k)}), api.ErrBad)
	}
	wantCheck(t, api.Json{Kind: api.List, Names: []string{}, Items: []api.Json{}}, api.OK)
	wantCheck(t, api.Json{Kind: api.Object, Names: []string{}, Items: []api.Json{}}, api.OK)
	wantCheck(t, api.Json{Names: []string{}, Items: []api.Json{}}, api.OK)
}

// Each field beside each Kind: it may be something only where it is the Kind's.
func TestCheckOfFieldsThatAreNotTheKinds(t *testing.T) {
	for k := range uint8(7) {
		base := api.Json{Kind: k}
		if k == api.Number {
			base.Text = "1.5"
		}
		wantCheck(t, base, api.OK)
		turn := func(f func(v *api.Json), own ...uint8) {
			t.Helper()
			v := deep(base)
			f(&v)
			want := api.ErrBad
			for _, o := range own {
				if o == k {
					want = api.OK
				}
			}
			wantCheck(t, v, want)
			wantCheck(t, list(v), want)
			wantCheck(t, object("a", whole(1), "b", list(v)), want)
		}
		turn(func(v *api.Json) { v.Bool = true }, api.Bool)
		turn(func(v *api.Json) { v.Int = 1 }, api.Int)
		turn(func(v *api.Json) { v.Int = -1 << 63 }, api.Int)
		turn(func(v *api.Json) { v.Text = "2.5" }, api.Number, api.Text)
		turn(func(v *api.Json) { v.Text = " " }, api.Text)
		turn(func(v *api.Json) { v.Names = []string{""} })
		turn(func(v *api.Json) { v.Names = []string{"a"} })
		turn(func(v *api.Json) { v.Items = []api.Json{{}} }, api.List)
		turn(func(v *api.Json) { v.Items = []api.Json{{}}; v.Names = []string{""} }, api.Object)
	}
}

func TestCheckOfNumbers(t *testing.T) {
	for _, s := range []string{"-0", "0.0", "1.0", "1.50", "-1.5", "1e5", "1E5", "1e+5", "1e-5", "0e0", "-0e-0", "1.5E+05", "9223372036854775808", "-9223372036854775809", "99999999999999999999", chars(16384, '9'), "0." + chars(16382, '0')} {
		wantCheck(t, number(s), api.OK)
		wantText(t, number(s), s, api.OK)
	}
	for _, s := range []string{
		"", "0", "1", "-1", "10", "9223372036854775807", "-9223372036854775808", "01", "00", "-00", "-01.5", "01.5", "-", "+1.5", ".5", "1.", "1.e5", "1e", "1e+", "1e-", "1.5e", "1..5", "1.5.5", "1ee5", "1e5e5", "--1.5", "0x1.5",
		" 1.5", "1.5 ", "\n1.5", "1.5\n", "1. 5", "1_0.5", "1,5", "1.5x", "x", "NaN", "Inf", "null", `"1.5"`, "[1.5]", "1.5\x00", "\xff", "1.5\xff", "é", "1.5 2.5", chars(16385, '9'), "0." + chars(16383, '0'), chars(1<<16, '9'),
	} {
		wantCheck(t, number(s), api.ErrBad)
	}
	wantText(t, number("1"), "", api.ErrBad)
	wantText(t, number("1.50"), "1.50", api.OK)
}

// illFormed are bytes that are no text.
func illFormed() []string {
	return []string{
		"\x80", "\xbf", "\xc0\x80", "\xc1\xbf", "\xc2", "\xc2\x7f", "\xc2\xc0", "\xe0\x80\x80", "\xe0\x9f\xbf", "\xe1\x80", "\xe1", "\xe1\x80\xc0", "\xed\xa0\x80", "\xed\xbf\xbf", "\xed\xa0\xbd\xed\xb8\x80",
		"\xf0\x80\x80\x80", "\xf0\x8f\xbf\xbf", "\xf0\x90\x80", "\xf4\x90\x80\x80", "\xf5\x80\x80\x80", "\xf8\x88\x80\x80\x80", "\xfe", "\xff", "a\xff", "\xffa", "é\xc3", "a\x80b", chars(16384, 255),
	}
}

// formed are neighbours of those, and others that are texts.
func formed() []string {
	return []string{
		"", "a", "\x00", "\x1f", "\x7f", "\"", "\\", "\xc2\x80", "\xdf\xbf", "\xe0\xa0\x80", "\xe1\x80\x80", "\xed\x9f\xbf", "\xee\x80\x80", "\xef\xbf\xbd", "\xef\xbf\xbf", "\xf0\x90\x80\x80", "\xf4\x8f\xbf\xbf", "\xf3\xbf\xbf\xbf", "aéa\U0001F600", chars(16384, 'x'), strings.Repeat("é", 8192), chars(16383, 0),
	}
}

func TestCheckOfTexts(t *testing.T) {
	for _, s := range formed() {
		wantCheck(t, text(s), api.OK)
		wantCheck(t, object(s, whole(1)), api.OK)
		wantCheck(t, list(object("x", whole(1), s, text(s))), api.OK)
	}
	for _, s := range append(illFormed(), chars(16385, 'x'), strings.Repeat("é", 8192)+"x", chars(1<<17, 'x'), chars(16385, 255)) {
		wantCheck(t, text(s), api.ErrText)
		wantCheck(t, list(whole(1), text(s)), api.ErrText)
		wantCheck(t, object(s, whole(1)), api.ErrText)
		wantCheck(t, object("a", whole(1), s, whole(1)), api.ErrText)
		// What is no Text's text is told as what it is.
		wantCheck(t, api.Json{Text: s}, api.ErrBad)
		wantCheck(t, number(s), api.ErrBad)
	}
}

func TestCheckOfNames(t *testing.T) {
	named := func(items int, names ...string) api.Json {
		return api.Json{Kind: api.Object, Names: names, Items: make([]api.Json, items)}
	}
	wantCheck(t, named(0, "a"), api.ErrBad)
	wantCheck(t, named(1), api.ErrBad)
	wantCheck(t, named(2, "a"), api.ErrBad)
	wantCheck(t, named(1, "a", "b"), api.ErrBad)
	wantCheck(t, named(2, "a", "b"), api.OK)
	wantCheck(t, named(3, "a", "A", ""), api.OK)
	wantCheck(t, named(2, "a", "a"), api.ErrBad)
	wantCheck(t, named(2, "", ""), api.ErrBad)
	wantCheck(t, named(3, "a", "b", "a"), api.ErrBad)
	wantCheck(t, named(3, "b", "a", "a"), api.ErrBad)
	wantCheck(t, named(2, "é", "e\u0301"), api.OK)
	// One after another: each is looked at as a text first, then beside those ahead of it.
	wantCheck(t, named(3, "a", "a", "\xff"), api.ErrBad)
	wantCheck(t, named(3, "a", "\xff", "a"), api.ErrText)
	wantCheck(t, named(2, "\xff", "\xff"), api.ErrText)
	wantCheck(t, named(3, "a", "a", chars(16385, 'x')), api.ErrBad)
	wantCheck(t, named(3, "a", chars(16385, 'x'), "a"), api.ErrText)
	// Names are looked at behind the count of items, and ahead of the items.
	v := named(1025)
	for i := range 1025 {
		v.Names = append(v.Names, fmt.Sprint(i))
	}
	wantCheck(t, v, api.ErrMany)
	v.Names[0] = "\xff"
	wantCheck(t, v, api.ErrMany)
	v.Names[0] = v.Names[1]
	wantCheck(t, v, api.ErrMany)
	v.Names, v.Items = v.Names[1:], v.Items[1:]
	wantCheck(t, v, api.OK)
	v.Items[0].Kind = 9
	wantCheck(t, v, api.ErrBad)
	v.Names[1023] = "\xff"
	wantCheck(t, v, api.ErrText)
	v.Names[1023] = v.Names[0]
	v.Items[0] = text("\xff")
	wantCheck(t, v, api.ErrBad)
	v.Names = v.Names[:1023]
	wantCheck(t, v, api.ErrBad)
}

func TestCheckOfDepths(t *testing.T) {
	for _, form := range []byte("lom") {
		for _, n := range []int{0, 1, 30, 31} {
			_, _, v := nested(form, n, "", list())
			wantCheck(t, v, api.OK)
			_, _, v = nested(form, n, "", object("x", api.Json{}))
			wantCheck(t, v, api.OK)
		}
		for _, n := range []int{32, 33, 40, 200} {
			_, _, v := nested(form, n, "", list())
			wantCheck(t, v, api.ErrDepth)
			_, _, v = nested(form, n, "", object())
			wantCheck(t, v, api.ErrDepth)
		}
		for _, x := range []api.Json{{}, truth(true), whole(1), number("1.5"), text("a")} {
			_, _, v := nested(form, 32, "", x)
			wantCheck(t, v, api.OK)
			_, _, v = nested(form, 33, "", x)
			wantCheck(t, v, api.ErrDepth)
		}
		// What is at depth 33 and may not be anyway.
		_, _, v := nested(form, 32, "", api.Json{Kind: api.List, Bool: true})
		wantCheck(t, v, api.ErrBad)
		_, _, v = nested(form, 32, "", api.Json{Kind: api.Object, Names: []string{"a"}})
		wantCheck(t, v, api.ErrBad)
		_, _, v = nested(form, 32, "", list(make([]api.Json, 1025)...))
		wantCheck(t, v, api.ErrDepth)
		_, _, v = nested(form, 32, "", object("\xff", whole(1)))
		wantCheck(t, v, api.ErrDepth)
		_, _, v = nested(form, 32, "", list(api.Json{Kind: 9}))
		wantCheck(t, v, api.ErrDepth)
	}
	// A list that holds itself is too deep, not endless.
	l := make([]api.Json, 2)
	l[0], l[1] = list(), list()
	l[0].Items, l[1].Items = l, l
	if e := Check(l[0]); e != api.ErrDepth {
		t.Error(e)
	}
	if s, e := Text(l[0]); s != "" || e != api.ErrDepth {
		t.Error(s, e)
	}
	if _, e := Put(object("a", whole(1)), "b", l[0]); e != api.ErrDepth {
		t.Error(e)
	}
}

func TestCheckOfMany(t *testing.T) {
	for _, n := range []int{0, 1, 1023, 1024} {
		wantCheck(t, list(make([]api.Json, n)...), api.OK)
		wantCheck(t, list(list(make([]api.Json, n)...), list(make([]api.Json, n)...)), api.OK)
	}
	for _, n := range []int{1025, 1026, 5000} {
		wantCheck(t, list(make([]api.Json, n)...), api.ErrMany)
		wantCheck(t, list(whole(1), list(make([]api.Json, n)...)), api.ErrMany)
		wantCheck(t, object("a", list(make([]api.Json, n)...)), api.ErrMany)
		bad := list(make([]api.Json, n)...)
		bad.Items[0].Kind = 9
		wantCheck(t, bad, api.ErrMany)
		bad.Int = 1
		wantCheck(t, bad, api.ErrBad)
	}
}

// flaws are of an object at depth 32 or 33, each with what it is refused by, in the order in which they are told.
func flaws() []struct {
	turn func(v *api.Json)
	e    api.Errno
} {
	return []struct {
		turn func(v *api.Json)
		e    api.Errno
	}{
		{func(v *api.Json) { v.Bool = true }, api.ErrBad},
		{func(v *api.Json) { v.Int = 7 }, api.ErrBad},
		{func(v *api.Json) { v.Text = "\xff" }, api.ErrBad},
		{func(v *api.Json) { v.Names = append(v.Names, "more") }, api.ErrBad},
		{func(v *api.Json) { v.Names[1] = "\xff" }, api.ErrText},
		{func(v *api.Json) { v.Names[2] = v.Names[0] }, api.ErrBad},
		{func(v *api.Json) { v.Names[3] = chars(16385, 'x') }, api.ErrText},
		{func(v *api.Json) { v.Items[0] = text("\xff") }, api.ErrText},
		{func(v *api.Json) { v.Items[1] = api.Json{Kind: 7} }, api.ErrBad},
		{func(v *api.Json) { v.Items[2] = list(make([]api.Json, 1025)...) }, api.ErrMany},
		{func(v *api.Json) { v.Items[3] = list(list(list())) }, api.ErrDepth},
	}
}

func TestCheckTellsTheFirst(t *testing.T) {
	four := func() api.Json { return object("a", whole(1), "b", whole(2), "c", whole(3), "d", whole(4)) }
	for i, first := range flaws() {
		for j := i; j < len(flaws()); j++ {
			v := four()
			flaws()[j].turn(&v)
			if j > i {
				first.turn(&v)
			}
			at := func(depth int, want api.Errno) {
				t.Helper()
				_, _, w := nested('m', depth-1, "", v)
				wantCheck(t, w, want)
			}
			at(30, first.e)
			// One that is too deep is told behind what its fields are, and ahead of its count, its names and its items.
			deepest := first.e
			if i > 3 {
				deepest = api.ErrDepth
			}
			at(33, deepest)
		}
	}
	wantCheck(t, api.Json{Kind: 7, Text: "\xff", Items: make([]api.Json, 2000)}, api.ErrBad)
	wantCheck(t, api.Json{Kind: api.Text, Text: "\xff", Int: 1}, api.ErrBad)
}

// What is wrong within an item is told ahead of what is wrong with the next one, however deep it stands.
func TestCheckGoesThroughItemsInOrder(t *testing.T) {
	wrong := []struct {
		v api.Json
		e api.Errno
	}{
		{api.Json{Kind: 8}, api.ErrBad}, {text("\xff"), api.ErrText}, {list(make([]api.Json, 1025)...), api.ErrMany}, {object("\xff", whole(1)), api.ErrText}, {object("a", whole(1), "a", whole(1)), api.ErrBad},
	}
	_, _, deepest := nested('l', 33, "", api.Json{})
	wrong = append(wrong, wrong[0])
	wrong[5].v, wrong[5].e = deepest, api.ErrDepth
	for _, a := range wrong {
		for _, b := range wrong {
			wantCheck(t, list(a.v, b.v), a.e)
			wantCheck(t, list(list(list(a.v)), b.v), a.e)
			wantCheck(t, list(whole(1), object("x", whole(2), "y", list(a.v)), list(b.v)), a.e)
			wantCheck(t, object("x", list(object("y", a.v)), "z", b.v), a.e)
			wantCheck(t, list(list(text("a")), object("x", whole(1)), b.v), b.e)
		}
	}
}

func TestTextOfEachKind(t *testing.T) {
	for _, c := range kinds() {
		wantText(t, c.v, c.s, api.OK)
	}
	wantText(t, text("\x01/"), `"\u0001/"`, api.OK)
	for _, n := range []int64{0, 1, -1, 10, -1 << 63, 1<<63 - 1} {
		wantText(t, whole(n), fmt.Sprint(n), api.OK)
	}
	wantText(t, object("b", whole(1), "a", list(), "", object()), `{"b":1,"a":[],"":{}}`, api.OK)
	wantText(t, list(api.Json{}, truth(true), truth(false), list(whole(-1))), "[null,true,false,[-1]]", api.OK)
}

func TestTextOfEachByte(t *testing.T) {
	short := map[int]string{8: `\b`, 9: `\t`, 10: `\n`, 12: `\f`, 13: `\r`, '"': `\"`, '\\': `\\`}
	for c := range 0x80 {
		want, is := short[c]
		if !is {
			if want = string(rune(c)); c < 32 {
				want = fmt.Sprintf(`\u00%x%x`, c/16, c%16)
			}
		}
		wantText(t, text("a"+string(rune(c))+"z"), `"a`+want+`z"`, api.OK)
		wantText(t, object(string(rune(c)), whole(1)), `{"`+want+`":1}`, api.OK)
	}
	for _, s := range []string{"/", "\x7f", "é", "\u2028\u2029", "\ufeff", "\U0001F600", "\ufffd", "<>&'"} {
		wantText(t, text(s), `"`+s+`"`, api.OK)
	}
}

func TestTextThatIsTooLong(t *testing.T) {
	wantText(t, text(chars(16382, 'x')), `"`+chars(16382, 'x')+`"`, api.OK)
	for _, v := range []api.Json{
		text(chars(16383, 'x')), text(chars(16384, 'x')), text(chars(8192, '"')), text(chars(8192, '\n')), text(chars(2731, 1)), text(strings.Repeat("é", 8192)),
		list(text(chars(16381, 'x'))), object(chars(16379, 'x'), whole(1)), object("a", text(chars(16377, 'x'))), number(chars(16384, '9')), list(number(chars(16383, '9'))),
		list(text(chars(16384, 'x')), text(chars(16384, 'x'))), list(rep(1024, text(chars(16384, 'x')))...),
	} {
		wantCheck(t, v, api.OK)
		if v.Kind == api.Number {
			wantText(t, v, v.Text, api.OK)
		} else {
			wantText(t, v, "", api.ErrText)
		}
	}
	wantText(t, text(chars(8191, '"')), `"`+strings.Repeat(`\"`, 8191)+`"`, api.OK)
	wantText(t, text(chars(2730, 1)+"xx"), `"`+strings.Repeat(`\u0001`, 2730)+`xx"`, api.OK)
	wantText(t, list(text(chars(16380, 'x'))), `["`+chars(16380, 'x')+`"]`, api.OK)
	wantText(t, object(chars(16378, 'x'), whole(1)), `{"`+chars(16378, 'x')+`":1}`, api.OK)
	wantText(t, object("a", text(chars(16376, 'x'))), `{"a":"`+chars(16376, 'x')+`"}`, api.OK)
	wantText(t, list(number(chars(16382, '9'))), "["+chars(16382, '9')+"]", api.OK)
	// Many items: 15 bytes and a comma each, the last one without.
	full := rep(1024, text(chars(13, 'x')))
	wantText(t, list(full...), "", api.ErrText)
	full[7] = text(chars(12, 'x'))
	s, e := Text(list(full...))
	if e != api.OK || len(s) != 16384 {
		t.Error(len(s), e)
	}
	// The closing bracket alone is too much, or a whole list of them.
	wantText(t, list(text(chars(16379, 'x')), list()), "", api.ErrText)
	wantText(t, list(text(chars(16377, 'x')), list()), `["`+chars(16377, 'x')+`",[]]`, api.OK)
	wantText(t, list(text(chars(16378, 'x')), list()), "", api.ErrText)
	// What may not be is told ahead of what is too long.
	wantText(t, list(text(chars(16384, 'x')), text(chars(16384, 'x')), api.Json{Kind: 9}), "", api.ErrBad)
}

// A value of very many items is too long soon.
func TestTextOfVeryMany(t *testing.T) {
	row := list(rep(1024, text(chars(16384, 'x')))...)
	if s, e := Text(list(rep(128, row)...)); s != "" || e != api.ErrText {
		t.Error(len(s), e)
	}
}
