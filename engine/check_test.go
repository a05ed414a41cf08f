package engine

import (
	"math"
	"slices"
	"strings"
	"testing"

	"docket/api"
	"docket/json"
	"docket/model"
)

// nest has stages within one another (b and e in a, c and f in b, d beside them), two milestones, an attribute of each Kind.
func nest() api.Model {
	return api.Model{
		Name: "m", Attrs: []api.Attr{{Name: "t", Kind: api.IsBool}, {Name: "n", Kind: api.IsInt}, {Name: "s", Kind: api.IsText}}, Events: []string{"go", "stop"},
		Stages: []api.Stage{{Name: "a", In: -1, Role: "clerk"}, {Name: "b", In: 0}, {Name: "c", In: 1}, {Name: "d", In: -1}, {Name: "e", In: 0, Role: "boss"}, {Name: "f", In: 1}},
		Stones: []api.Stone{{Name: "x"}, {Name: "y"}},
	}
}

// with are the sentries that a line tells: the list (as a.opens, x.undo), the On and the name, or none, then a guard, or none; an ampersand between each two.
func with(m api.Model, text string) api.Model {
	m = deep(m)
	for _, s := range strings.Split(text, "&") {
		f := append(strings.SplitN(strings.TrimSpace(s), " ", 4), "", "", "")
		if f[0] == "" {
			continue
		}
		x := api.Sentry{On: uint8(slices.Index(happens, f[1])), Name: f[2], If: f[3]}
		if f[1] == "any" {
			x.Name, x.If = "", strings.TrimSpace(f[2]+" "+f[3])
		}
		at := strings.Split(f[0], ".")
		for i := range m.Stages {
			if s := &m.Stages[i]; s.Name == at[0] && at[1] == "opens" {
				s.Opens = append(s.Opens, x)
			} else if s.Name == at[0] && at[1] == "closes" {
				s.Closes = append(s.Closes, x)
			}
		}
		for i := range m.Stones {
			if s := &m.Stones[i]; s.Name == at[0] && at[1] == "done" {
				s.Done = append(s.Done, x)
			} else if s.Name == at[0] && at[1] == "undo" {
				s.Undo = append(s.Undo, x)
			}
		}
	}
	return m
}

// at is a case of m of which these stages are open, and these milestones reached.
func at(m api.Model, open, done string) api.Case {
	c := api.Case{Id: 7, Model: m.Name, Version: 2, Acted: []api.Acted{{User: "ann", Role: "clerk"}}}
	for _, a := range m.Attrs {
		c.Values = append(c.Values, api.Json{Kind: kindOfAttr[a.Kind]})
	}
	for _, s := range m.Stages {
		c.Open = append(c.Open, slices.Contains(strings.Fields(open), s.Name))
	}
	for _, s := range m.Stones {
		c.Done = append(c.Done, slices.Contains(strings.Fields(done), s.Name))
	}
	return c
}

// wantCheck asks that all calls tell e of a case, with nothing beside an error.
func wantCheck(t *testing.T, m api.Model, c api.Case, e api.Errno, about ...any) {
	t.Helper()
	if got, second := Check(m, c), secondCheck(m, c); got != e || second != e {
		t.Errorf("%v: Check tells %d, the second one %d, not %d", about, got, second, e)
	}
	for _, x := range []api.Event{{}, {Name: "no event"}} {
		wantE := e
		if e == api.OK && x.Name != "" {
			wantE = api.ErrEvent
		}
		after, l, n, got := Raise(m, c, x)
		if got != wantE {
			t.Errorf("%v: Raise tells %d, not %d", about, got, wantE)
		}
		if got != api.OK && (!isNothing(after) || l != nil || n != 0) {
			t.Errorf("%v: there is something beside the error: %+v, %v, %d", about, after, l, n)
		}
	}
	d, got := Move(m, m, c, c.Version)
	if got != e && !(c.Version < 0 || c.Version > math.MaxInt32) {
		t.Errorf("%v: Move tells %d, not %d", about, got, e)
	}
	if got != api.OK && !isNothing(d) {
		t.Errorf("%v: there is something beside the error: %+v", about, d)
	}
}

func isNothing(c api.Case) bool {
	return shown(c) == shown(api.Case{}) && c.Values == nil && c.Open == nil && c.Done == nil && c.Acted == nil
}

// wantTurned turns a case that may be, and checks it.
func wantTurned(t *testing.T, e api.Errno, turn func(c *api.Case), about ...any) {
	t.Helper()
	c := at(nest(), "a b c", "x")
	turn(&c)
	wantCheck(t, nest(), c, e, about...)
}

func TestCheckOfNothing(t *testing.T) {
	wantCheck(t, api.Model{}, api.Case{}, api.ErrName)
	wantCheck(t, api.Model{Name: "m"}, api.Case{}, api.ErrCase)
	wantCheck(t, api.Model{Name: "m"}, api.Case{Model: "m"}, api.OK)
	wantCheck(t, api.Model{Name: "m"}, api.Case{Model: "m", Values: []api.Json{}, Open: []bool{}, Done: []bool{}, Acted: []api.Acted{}}, api.OK)
	wantCheck(t, nest(), api.Case{}, api.ErrCase)
	wantCheck(t, nest(), api.Case{Model: "m"}, api.ErrCase)
	for _, open := range []string{"", "a", "d", "a b", "a b c d e f", "a e d"} {
		for _, done := range []string{"", "x", "y", "x y"} {
			wantCheck(t, nest(), at(nest(), open, done), api.OK, open, done)
		}
	}
}

// What is wrong with the model is told ahead of what is wrong with the case, and both ahead of an event.
func TestCheckTellsTheModelFirst(t *testing.T) {
	many := nest()
	many.Events = make([]string, 33)
	nobody := nest()
	nobody.Name = "Nobody"
	loops := with(nest(), "a.opens opened d & d.opens opened a")
	for e, m := range map[api.Errno]api.Model{api.ErrName: nobody, api.ErrMany: many, api.ErrModel: with(nest(), "a.opens any z"), api.ErrLoop: loops} {
		if model.Check(m) != e {
			t.Fatal(e)
		}
		wantCheck(t, m, at(m, "a b", "x"), e, e)
		wantCheck(t, m, at(m, "b", "x"), e, e)
		wantCheck(t, m, api.Case{}, e, e)
		wantCheck(t, m, api.Case{Id: -1, Acted: make([]api.Acted, 2000)}, e, e)
	}
}

func TestCheckNumbers(t *testing.T) {
	for n, e := range map[int]api.Errno{-1: api.ErrCase, 0: api.OK, 1: api.OK, math.MaxInt32: api.OK, math.MaxInt32 + 1: api.ErrCase, math.MaxUint32 + 1: api.ErrCase, math.MaxInt: api.ErrCase, math.MinInt: api.ErrCase} {
		wantTurned(t, e, func(c *api.Case) { c.Id = n }, "Id", n)
		wantTurned(t, e, func(c *api.Case) { c.Version = n }, "Version", n)
	}
}

func TestCheckModelsName(t *testing.T) {
	for name, e := range map[string]api.Errno{"m": api.OK, "": api.ErrCase, "n": api.ErrCase, "M": api.ErrCase, "mm": api.ErrCase, " m": api.ErrCase, "m\x00": api.ErrCase} {
		wantTurned(t, e, func(c *api.Case) { c.Model = name }, "Model", name)
	}
}

func TestCheckCounts(t *testing.T) {
	for what, turn := range map[string]func(c *api.Case){
		"Values fewer": func(c *api.Case) { c.Values = c.Values[:2] }, "Values more": func(c *api.Case) { c.Values = append(c.Values, json.Num(1)) },
		"Open fewer": func(c *api.Case) { c.Open = c.Open[:5] }, "Open more": func(c *api.Case) { c.Open = append(c.Open, false) },
		"Done fewer": func(c *api.Case) { c.Done = c.Done[:1] }, "Done more": func(c *api.Case) { c.Done = append(c.Done, false) },
		"no Values": func(c *api.Case) { c.Values = nil }, "no Open": func(c *api.Case) { c.Open = nil }, "no Done": func(c *api.Case) { c.Done = nil },
	} {
		wantTurned(t, api.ErrCase, turn, what)
	}
	none := api.Model{Name: "m"}
	wantCheck(t, none, api.Case{Model: "m", Values: []api.Json{json.Num(0)}}, api.ErrCase)
	wantCheck(t, none, api.Case{Model: "m", Open: []bool{false}}, api.ErrCase)
	wantCheck(t, none, api.Case{Model: "m", Done: []bool{false}}, api.ErrCase)
}

// values has for each Kind of attribute what may be its value, and what may not.
func values() (good map[uint8][]api.Json, bad []api.Json) {
	long := strings.Repeat("é", api.MaxText/2)
	good = map[uint8][]api.Json{
		api.IsBool: {json.Yes(true), json.Yes(false), {Kind: api.Bool, Names: []string{}, Items: []api.Json{}}},
		api.IsInt:  {json.Num(0), json.Num(-1), json.Num(math.MinInt64), json.Num(math.MaxInt64), {Kind: api.Int, Int: 5, Items: make([]api.Json, 0, 9)}},
		api.IsText: {json.Str(""), json.Str("a\x00b"), json.Str(long), json.Str("\U0010ffff"), {Kind: api.Text, Text: "x", Names: make([]string, 0, 9)}},
	}
	bad = []api.Json{
		{}, {Kind: api.Number, Text: "1.5"}, {Kind: api.List}, {Kind: api.Object}, {Kind: 7}, {Kind: 255}, {Kind: api.Bool + 128}, json.Rows([]api.Json{json.Num(1)}),
		{Kind: api.Bool, Bool: true, Int: 1}, {Kind: api.Bool, Text: "x"}, {Kind: api.Bool, Items: []api.Json{{}}}, {Kind: api.Bool, Names: []string{""}},
		{Kind: api.Int, Bool: true}, {Kind: api.Int, Int: 1, Text: "1"}, {Kind: api.Int, Names: []string{"x"}}, {Kind: api.Int, Items: make([]api.Json, 1)},
		{Kind: api.Text, Bool: true}, {Kind: api.Text, Int: 1}, {Kind: api.Text, Text: "x", Items: make([]api.Json, 1)}, {Kind: api.Text, Names: []string{""}},
		json.Str("\xff"), json.Str("\xed\xa0\x80"), json.Str(long + "x"), json.Str("x" + long),
	}
	return good, bad
}

func TestCheckValues(t *testing.T) {
	good, bad := values()
	for i, a := range nest().Attrs {
		for kind, l := range good {
			for k, v := range l {
				e := api.ErrCase
				if kind == a.Kind {
					e = api.OK
				}
				wantTurned(t, e, func(c *api.Case) { c.Values[i] = v }, a.Name, kind, k)
			}
		}
		for k, v := range bad {
			wantTurned(t, api.ErrCase, func(c *api.Case) { c.Values[i] = v }, a.Name, "bad", k)
		}
	}
}

// tower has 32 stages, each within the one ahead.
func tower() api.Model {
	m := api.Model{Name: "m"}
	for i := range 32 {
		m.Stages = append(m.Stages, api.Stage{Name: "s" + strings.Repeat("x", i), In: i - 1})
	}
	return m
}

func TestCheckWithin(t *testing.T) {
	m := tower()
	for depth := range 33 {
		c := at(m, "", "")
		for i := range depth {
			c.Open[i] = true
		}
		wantCheck(t, m, c, api.OK, "open", depth)
		// A gap in what is open.
		for gap := range max(depth-1, 0) {
			c.Open[gap] = false
			wantCheck(t, m, c, api.ErrCase, "open", depth, "but", gap)
			c.Open[gap] = true
		}
		for far := depth + 1; far < 32; far++ {
			c.Open[far] = true
			wantCheck(t, m, c, api.ErrCase, "open", depth, "and", far)
			c.Open[far] = false
		}
	}
	for open, e := range map[string]api.Errno{"b": api.ErrCase, "c": api.ErrCase, "e": api.ErrCase, "a c": api.ErrCase, "b c": api.ErrCase, "a f": api.ErrCase, "d e": api.ErrCase, "a d f b": api.OK, "d": api.OK, "a b e": api.OK} {
		wantCheck(t, nest(), at(nest(), open, ""), e, open)
	}
}

func TestCheckActed(t *testing.T) {
	for n, e := range map[int]api.Errno{0: api.OK, 1: api.OK, 1023: api.OK, 1024: api.OK, 1025: api.ErrCase, 5000: api.ErrCase} {
		wantTurned(t, e, func(c *api.Case) { c.Acted = slices.Repeat([]api.Acted{{User: "bob", Role: "clerk"}}, n) }, "Acted", n)
	}
	for user, e := range map[string]api.Errno{"": api.OK, "bob": api.OK, "Bob the \xff\x00": api.OK, strings.Repeat("u", 32): api.OK, strings.Repeat("u", 33): api.ErrCase, strings.Repeat("é", 16): api.OK, strings.Repeat("é", 16) + "x": api.ErrCase, strings.Repeat("é", 17): api.ErrCase} {
		for place := range 3 {
			wantTurned(t, e, func(c *api.Case) {
				c.Acted = slices.Repeat([]api.Acted{{User: "bob", Role: "clerk"}}, 3)
				c.Acted[place].User = user
			}, "User", user, place)
		}
	}
	roles := map[string]api.Errno{"": api.ErrCase, "r": api.OK, "9": api.OK, "-": api.OK, "_": api.OK, ".": api.OK, "az09-_.": api.OK, "and": api.OK, "open": api.OK, strings.Repeat("r", 32): api.OK, strings.Repeat("r", 33): api.ErrCase, "R": api.ErrCase, "rR": api.ErrCase, "r r": api.ErrCase, " r": api.ErrCase, "r ": api.ErrCase, "é": api.ErrCase, "r\x00": api.ErrCase, "r\xff": api.ErrCase, "r,": api.ErrCase}
	for c := range 256 {
		one := string([]byte{byte(c)})
		e := api.ErrCase
		if strings.Contains("abcdefghijklmnopqrstuvwxyz0123456789-_.", one) {
			e = api.OK
		}
		roles[one], roles["r"+one+"r"] = e, e
	}
	for role, e := range roles {
		for place := range 3 {
			wantTurned(t, e, func(c *api.Case) {
				c.Acted = slices.Repeat([]api.Acted{{User: "bob", Role: "clerk"}}, 3)
				c.Acted[place].Role = role
			}, "Role", role, place)
		}
	}
	// The same one twice, and two roles of one that must be apart, are the law's matter, not a case's.
	m := nest()
	m.Apart = [][2]string{{"clerk", "boss"}}
	c := at(m, "", "")
	c.Acted = []api.Acted{{User: "bob", Role: "clerk"}, {User: "bob", Role: "boss"}, {User: "bob", Role: "clerk"}}
	wantCheck(t, m, c, api.OK)
}
