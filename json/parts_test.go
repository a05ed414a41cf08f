package json

import (
	"fmt"
	"math"
	"testing"

	"docket/api"
)

// others are values that differ from one another, each in one field or a place of a list.
func others() []api.Json {
	l := []api.Json{
		{}, {Bool: true}, {Int: 1}, {Int: -1}, {Int: math.MinInt64}, {Text: "a"}, {Text: "b"}, {Text: "\xff"}, {Text: "a\x00"}, {Names: []string{""}}, {Names: []string{"a"}}, {Names: []string{"a", "b"}}, {Names: []string{"b", "a"}}, {Names: []string{"a", "a"}},
		{Items: []api.Json{{}}}, {Items: []api.Json{{}, {}}}, {Items: []api.Json{{Kind: 1}}}, {Items: []api.Json{{Kind: 1}, {}}}, {Items: []api.Json{{}, {Kind: 1}}}, {Items: []api.Json{{Int: 2}}}, {Items: []api.Json{{Text: "a"}}}, {Items: []api.Json{{Names: []string{"a"}}}}, {Items: []api.Json{{Items: []api.Json{{Bool: true}}}}},
		{Names: []string{"a"}, Items: []api.Json{{}}}, {Names: []string{"b"}, Items: []api.Json{{}}},
	}
	for _, v := range l {
		for _, k := range []uint8{1, 2, 3, 4, 5, 6, 7, 255} {
			v.Kind = k
			l = append(l, v)
		}
	}
	return l
}

func TestSame(t *testing.T) {
	l := others()
	for i, a := range l {
		for j, b := range l {
			for _, around := range []func(v api.Json) api.Json{
				func(v api.Json) api.Json { return v },
				func(v api.Json) api.Json { return list(whole(1), v) },
				func(v api.Json) api.Json { return object("a", list(v), "b", text("z")) },
			} {
				if Same(around(a), around(deep(b))) != (i == j) {
					t.Fatalf("%s and %s", shown(a), shown(b))
				}
			}
		}
	}
	// A list without elements is the same whether it is there or not.
	if !Same(api.Json{Kind: 5, Items: []api.Json{}, Names: []string{}}, api.Json{Kind: 5}) {
		t.Error("empty lists")
	}
	if !Same(list(list()), list(api.Json{Kind: 5, Items: []api.Json{}})) {
		t.Error("empty lists within")
	}
}

// At any depth, also beyond what may be: 2^16 parts nested in one another.
func TestSameOfDeepValues(t *testing.T) {
	a, b, c := whole(1), whole(1), whole(2)
	for range 1 << 16 {
		a, b, c = list(a), list(b), list(c)
	}
	if !Same(a, b) || Same(a, c) || Same(a, a.Items[0]) {
		t.Error("deep values")
	}
	if x, is := At(a, 0); !is || !Same(x, a.Items[0]) {
		t.Error("At of a deep value")
	}
	if !Same(Rows(a.Items), a) {
		t.Error("Rows of a deep value")
	}
	if x, is := Get(object("a", a), "a"); !is || !Same(x, a) {
		t.Error("Get of a deep value")
	}
	if Check(a) != api.ErrDepth {
		t.Error("Check of a deep value")
	}
}

func wantGet(t *testing.T, v api.Json, name string, want api.Json, is bool) {
	t.Helper()
	if got, there := Get(v, name); there != is || !modelSame(got, want) {
		t.Errorf("Get(%.200s, %q) is %.200s, %t", shown(v), name, shown(got), there)
	}
}

func wantAt(t *testing.T, v api.Json, i int, want api.Json, is bool) {
	t.Helper()
	if got, there := At(v, i); there != is || !modelSame(got, want) {
		t.Errorf("At(%.200s, %d) is %.200s, %t", shown(v), i, shown(got), there)
	}
}

func TestGet(t *testing.T) {
	v := object("a", whole(1), "b", list(whole(2), object("c", whole(3))), "", text("none"), "null", api.Json{})
	wantGet(t, v, "a", whole(1), true)
	wantGet(t, v, "b", list(whole(2), object("c", whole(3))), true)
	wantGet(t, v, "", text("none"), true)
	wantGet(t, v, "null", api.Json{}, true)
	for _, name := range []string{"c", "A", "a ", "aa", "\xff", "nul", "0", chars(20000, 'x')} {
		wantGet(t, v, name, api.Json{}, false)
	}
	wantGet(t, object(), "a", api.Json{}, false)
	wantGet(t, object(), "", api.Json{}, false)
	// Of values that may not be: the first one of two, whatever their names and items are.
	wantGet(t, object("a", whole(1), "a", whole(2)), "a", whole(1), true)
	wantGet(t, object("b", whole(0), "a", whole(1), "a", whole(2)), "a", whole(1), true)
	wantGet(t, object("\xff", api.Json{Kind: 9, Text: "x"}), "\xff", api.Json{Kind: 9, Text: "x"}, true)
	few := api.Json{Kind: api.Object, Names: []string{"a", "b", "a"}, Items: []api.Json{whole(1)}}
	wantGet(t, few, "a", whole(1), true)
	wantGet(t, few, "b", api.Json{}, false)
	few.Names = []string{"b", "a"}
	wantGet(t, few, "a", api.Json{}, false)
	few.Items = nil
	wantGet(t, few, "b", api.Json{}, false)
	many := api.Json{Kind: api.Object, Names: []string{"a"}, Items: []api.Json{whole(1), whole(2)}}
	wantGet(t, many, "a", whole(1), true)
	wantGet(t, many, "", api.Json{}, false)
	many.Names = nil
	wantGet(t, many, "a", api.Json{}, false)
	large := api.Json{Kind: api.Object}
	for i := range 3000 {
		large.Names, large.Items = append(large.Names, fmt.Sprint(i)), append(large.Items, whole(int64(i)))
	}
	for _, i := range []int64{0, 1023, 1024, 2999} {
		wantGet(t, large, fmt.Sprint(i), whole(i), true)
	}
	for k := range 256 {
		if uint8(k) != api.Object {
			wantGet(t, api.Json{Kind: uint8(k), Names: []string{"a"}, Items: []api.Json{whole(1)}}, "a", api.Json{}, false)
		}
	}
}

func TestAt(t *testing.T) {
	v := list(whole(1), list(whole(2)), api.Json{}, api.Json{Kind: 9, Names: []string{"x"}})
	for i, x := range v.Items {
		wantAt(t, v, i, x, true)
	}
	for _, i := range []int{-1, 4, 5, -4, math.MinInt, math.MaxInt, 1 << 32} {
		wantAt(t, v, i, api.Json{}, false)
	}
	for _, i := range []int{-1, 0, 1} {
		wantAt(t, list(), i, api.Json{}, false)
	}
	for k := range 256 {
		if uint8(k) != api.List {
			wantAt(t, api.Json{Kind: uint8(k), Names: []string{"a"}, Items: []api.Json{whole(1)}}, 0, api.Json{}, false)
		}
	}
	// Whatever else is there: a list is a list.
	wantAt(t, api.Json{Kind: api.List, Text: "x", Names: []string{"a", "b"}, Items: rep(2000, whole(7))}, 1999, whole(7), true)
}

func wantPut(t *testing.T, v api.Json, name string, x, want api.Json, e api.Errno) {
	t.Helper()
	if got, gotE := Put(v, name, x); gotE != e || !modelSame(got, want) {
		t.Errorf("Put(%.200s, %.200q, %.200s) is %.200s, %d, not %.200s, %d", shown(v), name, shown(x), shown(got), gotE, shown(want), e)
	}
	if got, gotE := modelPut(v, name, x); gotE != e || !modelSame(got, want) {
		t.Errorf("the model of Put(%.200s, %.200q, %.200s) is %.200s, %d", shown(v), name, shown(x), shown(got), gotE)
	}
}

func TestPut(t *testing.T) {
	v := object("a", whole(1), "b", list(whole(2)))
	wantPut(t, v, "a", text("x"), object("a", text("x"), "b", list(whole(2))), api.OK)
	wantPut(t, v, "b", api.Json{}, object("a", whole(1), "b", api.Json{}), api.OK)
	wantPut(t, v, "c", truth(true), object("a", whole(1), "b", list(whole(2)), "c", truth(true)), api.OK)
	wantPut(t, v, "", v, object("a", whole(1), "b", list(whole(2)), "", v), api.OK)
	wantPut(t, v, "A", whole(3), object("a", whole(1), "b", list(whole(2)), "A", whole(3)), api.OK)
	wantPut(t, object(), "x", object(), object("x", object()), api.OK)
	wantPut(t, object("a", object("b", whole(1))), "b", whole(2), object("a", object("b", whole(1)), "b", whole(2)), api.OK)
	wantPut(t, v, chars(16384, 'x'), whole(1), object("a", whole(1), "b", list(whole(2)), chars(16384, 'x'), whole(1)), api.OK)
	for _, name := range formed() {
		wantPut(t, object(), name, whole(1), object(name, whole(1)), api.OK)
	}
}

func TestPutTellsErrorsInOrder(t *testing.T) {
	badX, longName := api.Json{Kind: 9}, chars(16385, 'x')
	full := object()
	for i := range 1024 {
		full.Names, full.Items = append(full.Names, fmt.Sprint(i)), append(full.Items, whole(0))
	}
	_, _, deepest := nested('o', 32, "", api.Json{})
	_, _, tooDeep := nested('o', 33, "", api.Json{})
	// Check of v is ahead of all.
	for _, name := range []string{"a", "\xff", longName} {
		for _, x := range []api.Json{whole(1), badX, text("\xff")} {
			wantPut(t, api.Json{Kind: 7}, name, x, api.Json{}, api.ErrBad)
			wantPut(t, text("\xff"), name, x, api.Json{}, api.ErrText)
			wantPut(t, list(make([]api.Json, 1025)...), name, x, api.Json{}, api.ErrMany)
			wantPut(t, tooDeep, name, x, api.Json{}, api.ErrDepth)
			wantPut(t, object("a", text("\xff")), name, x, api.Json{}, api.ErrText)
			wantPut(t, object("a", whole(1), "a", whole(2)), name, x, api.Json{}, api.ErrBad)
			wantPut(t, api.Json{Kind: api.Object, Names: []string{"a"}}, name, x, api.Json{}, api.ErrBad)
			// Then that it is no object.
			for _, v := range []api.Json{{}, truth(true), whole(1), number("1.5"), text("a"), list(), list(whole(1))} {
				wantPut(t, v, name, x, api.Json{}, api.ErrBad)
			}
		}
	}
	// Then the name, whatever else would come up.
	for _, v := range []api.Json{object(), full, deepest} {
		for _, x := range []api.Json{whole(1), badX, tooDeep} {
			for _, name := range append(illFormed(), longName) {
				wantPut(t, v, name, x, api.Json{}, api.ErrText)
			}
		}
	}
	// Then what comes of both.
	wantPut(t, object("a", whole(1)), "a", badX, api.Json{}, api.ErrBad)
	wantPut(t, object("a", whole(1)), "b", text("\xff"), api.Json{}, api.ErrText)
	wantPut(t, object("a", whole(1)), "b", list(make([]api.Json, 1025)...), api.Json{}, api.ErrMany)
	wantPut(t, full, "new", whole(1), api.Json{}, api.ErrMany)
	wantPut(t, full, "new", badX, api.Json{}, api.ErrMany)
	wantPut(t, full, "7", badX, api.Json{}, api.ErrBad)
	changed := deep(full)
	changed.Items[7] = text("x")
	wantPut(t, full, "7", text("x"), changed, api.OK)
	nearly := api.Json{Kind: api.Object, Names: full.Names[:1023], Items: full.Items[:1023]}
	wantPut(t, nearly, "1023", whole(0), full, api.OK)
	wantPut(t, object("a", whole(1)), "a", deepest, api.Json{}, api.ErrDepth)
	wantPut(t, object("a", whole(1)), "b", deepest, api.Json{}, api.ErrDepth)
	wantPut(t, object("a", whole(1)), "b", deepest.Items[0], object("a", whole(1), "b", deepest.Items[0]), api.OK)
	wantPut(t, deepest, "b", whole(1), object("a", deepest.Items[0], "b", whole(1)), api.OK)
}

func TestValuesThatAreMade(t *testing.T) {
	for _, s := range append(formed(), illFormed()...) {
		if v := Str(s); !modelSame(v, api.Json{Kind: 4, Text: s}) {
			t.Errorf("Str(%.200q) is %.200s", s, shown(v))
		}
	}
	for _, n := range []int64{0, 1, -1, math.MaxInt64, math.MinInt64} {
		if v := Num(n); !modelSame(v, api.Json{Kind: 2, Int: n}) {
			t.Errorf("Num(%d) is %s", n, shown(v))
		}
	}
	for _, b := range []bool{false, true} {
		if v := Yes(b); !modelSame(v, api.Json{Kind: 1, Bool: b}) {
			t.Errorf("Yes(%t) is %s", b, shown(v))
		}
	}
	for _, l := range [][]api.Json{nil, {}, {whole(1)}, {whole(1), list(text("a")), object("b", list())}, {{Kind: 9, Names: []string{"x"}}}, rep(1025, whole(3))} {
		if v := Rows(l); !modelSame(v, api.Json{Kind: 5, Items: l}) {
			t.Errorf("Rows of %d is %.200s", len(l), shown(v))
		}
	}
}
