package guard

import (
	"fmt"
	"math"
	"strings"
	"testing"

	"docket/api"
)

func truthValue(b bool) api.Json { return api.Json{Kind: api.Bool, Bool: b} }

func intValue(n int64) api.Json { return api.Json{Kind: api.Int, Int: n} }

func textValue(s string) api.Json { return api.Json{Kind: api.Text, Text: s} }

func told(v api.Json) string { return fmt.Sprintf("%d %t %d %q", v.Kind, v.Bool, v.Int, v.Text) }

func sameWorth(v, w api.Json) bool {
	return told(v) == told(w) && len(v.Names)+len(v.Items)+len(w.Names)+len(w.Items) == 0
}

func wantWorth(t *testing.T, g api.Guard, m api.Model, c api.Case, want api.Json, e api.Errno) {
	t.Helper()
	v, gotE := Worth(g, m, c)
	if !sameWorth(v, want) || gotE != e {
		t.Errorf("%.300s is worth %s, %d, not %s, %d", shown(g), told(v), gotE, told(want), e)
	}
	if v, gotE := modelWorth(g, m, c); !sameWorth(v, want) || gotE != e {
		t.Errorf("%.300s is to the model worth %s, %d, not %s, %d", shown(g), told(v), gotE, told(want), e)
	}
}

// plainModel and plainCase: t is true, f is false, n is 7, low the least number, x a text, two the number 3, though the second of that name is a text; s is open, m is not; r is reached, u is not.
func plainModel() api.Model {
	return api.Model{
		Attrs:  []api.Attr{{Name: "t", Kind: api.IsBool}, {Name: "f", Kind: api.IsBool}, {Name: "n", Kind: api.IsInt}, {Name: "low", Kind: api.IsInt}, {Name: "x", Kind: api.IsText}, {Name: "two", Kind: api.IsInt}, {Name: "two", Kind: api.IsText}},
		Stages: []api.Stage{{Name: "s"}, {Name: "m"}, {Name: "s"}},
		Stones: []api.Stone{{Name: "u"}, {Name: "r"}, {Name: "r"}},
	}
}

func plainCase() api.Case {
	return api.Case{
		Values: []api.Json{truthValue(true), truthValue(false), intValue(7), intValue(math.MinInt64), textValue("é'\n"), intValue(3), textValue("z")},
		Open:   []bool{true, false, false}, Done: []bool{false, true, false},
	}
}

func TestWorthOfEachKind(t *testing.T) {
	m, c := plainModel(), plainCase()
	for s, want := range map[string]api.Json{
		"true": truthValue(true), "false": truthValue(false), "0": intValue(0), "12": intValue(12), "9223372036854775807": intValue(math.MaxInt64), "''": textValue(""), "'a b'": textValue("a b"),
		"t": truthValue(true), "f": truthValue(false), "n": intValue(7), "low": intValue(math.MinInt64), "x": textValue("é'\n"), "two": intValue(3),
		"open(s)": truthValue(true), "open(m)": truthValue(false), "done(r)": truthValue(true), "done(u)": truthValue(false),
		"not t": truthValue(false), "not f": truthValue(true), "not not t": truthValue(true), "not open(s)": truthValue(false), "not (n = 8)": truthValue(true),
		"t and t": truthValue(true), "t and f": truthValue(false), "f and t": truthValue(false), "f and f": truthValue(false),
		"t or t": truthValue(true), "t or f": truthValue(true), "f or t": truthValue(true), "f or f": truthValue(false),
		"t = t": truthValue(true), "t = f": truthValue(false), "f = f": truthValue(true), "f = t": truthValue(false), "true = open(s)": truthValue(true),
		"n = 7": truthValue(true), "7 = n": truthValue(true), "n = 8": truthValue(false), "low = 0": truthValue(false), "low = low": truthValue(true), "0 = 0": truthValue(true),
		"x = x": truthValue(true), "x = 'e'": truthValue(false), "'' = ''": truthValue(true), "'a' = 'A'": truthValue(false), "'a' = 'a '": truthValue(false), "'1' = '1'": truthValue(true),
		"n < 8": truthValue(true), "n < 7": truthValue(false), "n < 6": truthValue(false), "low < 0": truthValue(true), "0 < low": truthValue(false), "low < low": truthValue(false), "low < 9223372036854775807": truthValue(true), "9223372036854775807 < low": truthValue(false),
		"n + 1": intValue(8), "n - 8": intValue(-1), "n * 6": intValue(42), "n - n": intValue(0), "n * 0": intValue(0), "0 * low": intValue(0), "low * 0": intValue(0), "low * 1": intValue(math.MinInt64), "1 * low": intValue(math.MinInt64),
		"(0 - n) * (0 - n)": intValue(49), "(0 - n) * n": intValue(-49), "n * (0 - n)": intValue(-49), "n - 1 - 1": intValue(5), "n - (1 - 1)": intValue(7), "2 + 3 * 4": intValue(14), "(2 + 3) * 4": intValue(20),
		"(n + 1 = 8) and not (x = 'y') or done(u)": truthValue(true), "(t or f) and (f or open(m))": truthValue(false),
	} {
		wantWorth(t, read(t, s), m, c, want, api.OK)
	}
}

// At the bounds of numbers, and one beyond each; numbers below 0 come from attributes.
func TestWorthAtTheBounds(t *testing.T) {
	m := api.Model{Attrs: []api.Attr{{Name: "a", Kind: api.IsInt}, {Name: "b", Kind: api.IsInt}}}
	const most, low = math.MaxInt64, math.MinInt64
	for _, x := range []struct {
		a, b int64
		sign string
		want int64
		e    api.Errno
	}{
		{most, 0, "+", most, 0}, {most - 1, 1, "+", most, 0}, {most, 1, "+", 0, 172}, {1, most, "+", 0, 172}, {most, most, "+", 0, 172}, {most, low, "+", -1, 0}, {low, most, "+", -1, 0}, {low, 0, "+", low, 0},
		{low + 1, -1, "+", low, 0}, {low, -1, "+", 0, 172}, {-1, low, "+", 0, 172}, {low, low, "+", 0, 172}, {1 << 62, 1 << 62, "+", 0, 172}, {1 << 62, 1<<62 - 1, "+", most, 0}, {-1 << 62, -1 << 62, "+", low, 0}, {-1 << 62, -1<<62 - 1, "+", 0, 172}, {0, low, "+", low, 0}, {-3, 3, "+", 0, 0},
		{low, 0, "-", low, 0}, {low + 1, 1, "-", low, 0}, {low, 1, "-", 0, 172}, {low, most, "-", 0, 172}, {0, most, "-", -most, 0}, {0, low, "-", 0, 172}, {-1, low, "-", most, 0}, {low, low, "-", 0, 0}, {most, most, "-", 0, 0},
		{most, -1, "-", 0, 172}, {most - 1, -1, "-", most, 0}, {most, low, "-", 0, 172}, {-2, most, "-", 0, 172}, {-1, most, "-", low, 0}, {1, low, "-", 0, 172}, {low, -1, "-", low + 1, 0}, {most, 1, "-", most - 1, 0},
		{most, 1, "*", most, 0}, {1, most, "*", most, 0}, {most, -1, "*", -most, 0}, {-1, most, "*", -most, 0}, {low, 1, "*", low, 0}, {1, low, "*", low, 0}, {low, -1, "*", 0, 172}, {-1, low, "*", 0, 172}, {low, 0, "*", 0, 0}, {0, low, "*", 0, 0}, {0, most, "*", 0, 0}, {0, 0, "*", 0, 0},
		{most, 2, "*", 0, 172}, {2, most, "*", 0, 172}, {low, 2, "*", 0, 172}, {2, low, "*", 0, 172}, {low, low, "*", 0, 172}, {most, most, "*", 0, 172}, {most, low, "*", 0, 172}, {low, most, "*", 0, 172}, {low, -2, "*", 0, 172}, {-2, low, "*", 0, 172},
		{1 << 62, 2, "*", 0, 172}, {1 << 62, -2, "*", low, 0}, {-1 << 62, 2, "*", low, 0}, {-1 << 62, -2, "*", 0, 172}, {-2, 1 << 62, "*", low, 0}, {2, -1 << 62, "*", low, 0}, {1<<62 - 1, 2, "*", most - 1, 0}, {-1<<62 - 1, 2, "*", 0, 172}, {-1<<62 + 1, -2, "*", most - 1, 0},
		{1 << 32, 1 << 31, "*", 0, 172}, {1 << 32, -1 << 31, "*", low, 0}, {-1 << 32, 1 << 31, "*", low, 0}, {-1 << 32, -1 << 31, "*", 0, 172}, {1 << 32, 1 << 32, "*", 0, 172}, {-1 << 32, 1 << 32, "*", 0, 172}, {1 << 33, 1 << 33, "*", 0, 172},
		{3037000499, 3037000499, "*", 9223372030926249001, 0}, {3037000500, 3037000500, "*", 0, 172}, {-3037000500, 3037000500, "*", 0, 172}, {-3037000499, 3037000499, "*", -9223372030926249001, 0},
		{7, 1317624576693539401, "*", most, 0}, {-7, 1317624576693539401, "*", -most, 0}, {7, 1317624576693539402, "*", 0, 172}, {-7, 1317624576693539402, "*", 0, 172}, {-7, -1317624576693539401, "*", most, 0},
	} {
		c := api.Case{Values: []api.Json{intValue(x.a), intValue(x.b)}}
		want := intValue(x.want)
		if x.e != api.OK {
			want = api.Json{}
		}
		wantWorth(t, read(t, "a "+x.sign+" b"), m, c, want, x.e)
	}
}

// Numbers about the bounds, and about the bounds' roots, by each sign.
func TestWorthOfManyNumbers(t *testing.T) {
	m := api.Model{Attrs: []api.Attr{{Name: "a", Kind: api.IsInt}, {Name: "b", Kind: api.IsInt}}}
	var numbers []int64
	for _, n := range []int64{0, math.MaxInt64, math.MinInt64, 1 << 62, -1 << 62, 1 << 31, 1 << 32, 3037000500, -3037000500, math.MaxInt64 / 3, math.MinInt64 / 3} {
		numbers = append(numbers, n-2, n-1, n, n+1, n+2)
	}
	for _, s := range []string{"a + b", "a - b", "a * b", "a < b", "a = b"} {
		g := read(t, s)
		for _, n := range numbers {
			for _, k := range numbers {
				c := api.Case{Values: []api.Json{intValue(n), intValue(k)}}
				v, e := Worth(g, m, c)
				if want, wantE := modelWorth(g, m, c); !sameWorth(v, want) || e != wantE {
					t.Errorf("%s of %d and %d is %s, %d, not %s, %d", s, n, k, told(v), e, told(want), wantE)
				}
			}
		}
	}
}

// What is not asked may have no worth.
func TestWorthOfWhatIsNotAsked(t *testing.T) {
	m, c := plainModel(), plainCase()
	const none = "9223372036854775807 + 1"
	for _, fault := range []string{none + " = 0", "0 < " + none, "not (" + none + " < 0)", "low - 1 = low", "low * 2 < 0", "t and " + none + " = 0", "f or low - n = 0", "1 = 2 * (" + none + ")", "0 * (" + none + ") = 0", "(" + none + ") - (" + none + ") = 0"} {
		for s, v := range map[string]bool{"f and ": false, "t or ": true, "(t and f) and ": false, "not f or ": true, "(n = 8) and ": false, "open(m) and ": false, "done(r) or ": true} {
			wantWorth(t, read(t, s+"("+fault+")"), m, c, truthValue(v), api.OK)
		}
		for _, s := range []string{"t and ", "f or ", "not ", "not not ", "t = ", "f and f or ", "(t or f) and ", "open(s) and ", "done(u) or "} {
			wantWorth(t, read(t, s+"("+fault+")"), m, c, api.Json{}, api.ErrWorth)
		}
		for _, s := range []string{" and f", " or t", " and t", " or f", " = t"} {
			wantWorth(t, read(t, "("+fault+")"+s), m, c, api.Json{}, api.ErrWorth)
		}
		wantWorth(t, read(t, "f and ("+fault+") or t and ("+fault+")"), m, c, api.Json{}, api.ErrWorth)
		wantWorth(t, read(t, "(f and ("+fault+")) = (f and ("+fault+"))"), m, c, truthValue(true), api.OK)
	}
	for _, s := range []string{none, none + " - 1", "1 - (" + none + ") + 1", "low - 1 + 1", "0 * (" + none + ")", "(low - 1) * 0", "1 + (" + none + ")"} {
		wantWorth(t, read(t, s), m, c, api.Json{}, api.ErrWorth)
	}
}

// changed is the plain case with something other in it.
func changed(change func(c *api.Case)) api.Case {
	c := plainCase()
	change(&c)
	return c
}

func badCases() map[string]api.Case {
	bad := map[string]api.Case{
		"no case":        {},
		"a value less":   changed(func(c *api.Case) { c.Values = c.Values[:6] }),
		"a value more":   changed(func(c *api.Case) { c.Values = append(c.Values, truthValue(true)) }),
		"no values":      changed(func(c *api.Case) { c.Values = nil }),
		"a stage less":   changed(func(c *api.Case) { c.Open = c.Open[:2] }),
		"a stage more":   changed(func(c *api.Case) { c.Open = append(c.Open, true) }),
		"no stages":      changed(func(c *api.Case) { c.Open = nil }),
		"a stone less":   changed(func(c *api.Case) { c.Done = c.Done[:2] }),
		"a stone more":   changed(func(c *api.Case) { c.Done = append(c.Done, false) }),
		"no stones":      changed(func(c *api.Case) { c.Done = nil }),
		"stages, stones": changed(func(c *api.Case) { c.Open, c.Done = c.Open[:2], append(c.Done, true) }),
	}
	values := []api.Json{
		{}, {Kind: api.Bool, Int: 1}, {Kind: api.Bool, Text: "x"}, {Kind: api.Bool, Names: []string{"a"}}, {Kind: api.Bool, Bool: true, Items: []api.Json{{}}},
		{Kind: api.Int, Bool: true}, {Kind: api.Int, Text: "7"}, {Kind: api.Int, Items: []api.Json{{}}}, {Kind: api.Int, Int: 7, Names: []string{""}},
		{Kind: api.Text, Text: "x", Bool: true}, {Kind: api.Text, Text: "x", Int: 1}, {Kind: api.Text, Items: []api.Json{{}}}, {Kind: api.Text, Names: []string{"a"}},
		textValue("\xff"), textValue("a\xed\xa0\x80"), textValue("\xc0\x80"), textValue(strings.Repeat("x", 16385)),
		{Kind: api.Number, Text: "1.5"}, {Kind: api.Number}, {Kind: api.List}, {Kind: api.Object}, {Kind: 7}, {Kind: 255},
	}
	for at := range plainModel().Attrs {
		for i, v := range values {
			bad[fmt.Sprintf("the value %d as %d", at, i)] = changed(func(c *api.Case) { c.Values[at] = v })
		}
		for i, v := range []api.Json{truthValue(true), intValue(7), textValue("x")} {
			if int(plainModel().Attrs[at].Kind) != i+1 {
				bad[fmt.Sprintf("the value %d of another Kind, %d", at, i)] = changed(func(c *api.Case) { c.Values[at] = v })
			}
		}
	}
	return bad
}

func TestWorthOfCasesThatMayNotBe(t *testing.T) {
	m := plainModel()
	for what, c := range badCases() {
		for _, s := range []string{"true", "7", "n", "t and open(s) or done(r)", "9223372036854775807 + 1", "f and n = 7"} {
			v, e := Worth(read(t, s), m, c)
			if !sameWorth(v, api.Json{}) || e != api.ErrBad {
				t.Errorf("%s in a case with %s is worth %s, %d", s, what, told(v), e)
			}
			wantWorth(t, read(t, s), m, c, api.Json{}, api.ErrBad)
		}
		// What is wrong with the guard goes ahead.
		wantWorth(t, api.Guard{}, m, c, api.Json{}, api.ErrBad)
		wantWorth(t, nots(32, a), m, c, api.Json{}, api.ErrDepth)
		wantWorth(t, read(t, "none"), m, c, api.Json{}, api.ErrNone)
		wantWorth(t, read(t, "t + 1"), m, c, api.Json{}, api.ErrKind)
	}
}

// An attribute whose Kind is none has no value, whether the guard asks it or not.
func TestWorthWithAnAttributeOfNoKind(t *testing.T) {
	for _, kind := range []uint8{0, 4, 5, 6, 255} {
		m := api.Model{Attrs: []api.Attr{{Name: "n", Kind: api.IsInt}, {Name: "bad", Kind: kind}}}
		for _, v := range []api.Json{{}, truthValue(true), intValue(1), textValue("x"), {Kind: api.Number, Text: "1.5"}, {Kind: api.List}, {Kind: kind}} {
			c := api.Case{Values: []api.Json{intValue(1), v}}
			wantWorth(t, read(t, "n + 1"), m, c, api.Json{}, api.ErrBad)
			wantWorth(t, read(t, "bad = bad"), m, c, api.Json{}, api.ErrKind)
		}
	}
}

// A case may have what the guard does not ask for, of whatever it is made besides.
func TestWorthOfOtherCases(t *testing.T) {
	m := plainModel()
	c := plainCase()
	c.Id, c.Model, c.Version, c.Acted = -7, "\xff", -1, []api.Acted{{User: "u"}}
	wantWorth(t, read(t, "n + 1"), m, c, intValue(8), api.OK)
	c.Values[4] = textValue(strings.Repeat("x", 16384))
	wantWorth(t, read(t, "x"), m, c, c.Values[4], api.OK)
	wantWorth(t, read(t, "x = 'x'"), m, c, truthValue(false), api.OK)
	for i := range c.Values {
		c.Values[i].Names, c.Values[i].Items = []string{}, []api.Json{}
	}
	wantWorth(t, read(t, "n = 7 and t"), m, c, truthValue(true), api.OK)
	wantWorth(t, read(t, "true"), api.Model{}, api.Case{}, truthValue(true), api.OK)
	wantWorth(t, read(t, "1 < 2"), api.Model{}, api.Case{Values: []api.Json{}, Open: []bool{}, Done: []bool{}}, truthValue(true), api.OK)
}

func TestWorthErrorsInTheirOrder(t *testing.T) {
	m, c := plainModel(), plainCase()
	fault := over(api.GuardAdd, whole(math.MaxInt64), whole(1))
	none, wrong := leaf(api.GuardAttr, "none"), over(api.GuardNot, whole(1))
	wantWorth(t, over(api.GuardSame, fault, api.Guard{}), m, c, api.Json{}, api.ErrBad)
	wantWorth(t, over(api.GuardSame, none, nots(32, a)), m, c, api.Json{}, api.ErrDepth)
	wantWorth(t, over(api.GuardSame, nots(32, a), api.Guard{}), m, c, api.Json{}, api.ErrBad)
	wantWorth(t, over(api.GuardSame, fault, none), m, c, api.Json{}, api.ErrNone)
	wantWorth(t, over(api.GuardSame, fault, wrong), m, c, api.Json{}, api.ErrKind)
	wantWorth(t, over(api.GuardSame, none, wrong), m, c, api.Json{}, api.ErrNone)
	wantWorth(t, over(api.GuardSame, wrong, none), m, c, api.Json{}, api.ErrKind)
	// Also of what is not asked.
	wantWorth(t, over(api.GuardAnd, leaf(api.GuardFalse, ""), none), m, c, api.Json{}, api.ErrNone)
	wantWorth(t, over(api.GuardOr, leaf(api.GuardTrue, ""), wrong), m, c, api.Json{}, api.ErrKind)
	wantWorth(t, over(api.GuardAnd, leaf(api.GuardFalse, ""), api.Guard{}), m, c, api.Json{}, api.ErrBad)
	wantWorth(t, fault, m, api.Case{}, api.Json{}, api.ErrBad)
	wantWorth(t, fault, m, c, api.Json{}, api.ErrWorth)
}

func TestExamples(t *testing.T) {
	g := read(t, "a = 1 and not open(s)")
	want := over(api.GuardAnd, over(api.GuardSame, a, whole(1)), over(api.GuardNot, leaf(api.GuardOpen, "s")))
	if !modelSame(g, want) {
		t.Error(shown(g))
	}
	wantText(t, g, "(a = 1) and (not open(s))", api.OK)
	wantRead(t, "a-1", leaf(api.GuardAttr, "a-1"))
	wantRead(t, "a - 1", over(api.GuardSub, a, whole(1)))
	wantGuard(t, "a =", 3)
	wantGuard(t, "a = = b", 4)
	wantGuard(t, "'x", 0)
	wantGuard(t, "a b", 2)
	wantKind(t, read(t, "1 = 'a'"), api.Model{}, 0, api.ErrKind)
	wantKind(t, read(t, "1 < 2"), api.Model{}, api.IsBool, api.OK)
	wantKind(t, read(t, "open(x)"), api.Model{}, 0, api.ErrNone)
	wantWorth(t, read(t, "false and 9223372036854775807 + 1 = 0"), api.Model{}, api.Case{}, truthValue(false), api.OK)
	wantWorth(t, read(t, "9223372036854775807 + 1 = 0"), api.Model{}, api.Case{}, api.Json{}, api.ErrWorth)
}
