package model

import (
	"fmt"
	"slices"
	"strings"
	"testing"

	"docket/api"
)

// nest has four stages, b within a, c within b, and d beside them; two milestones; an event.
func nest() api.Model {
	return api.Model{
		Name: "m", Events: []string{"go"},
		Stages: []api.Stage{{Name: "a", In: -1, Role: "r"}, {Name: "b", In: 0}, {Name: "c", In: 1}, {Name: "d", In: -1}},
		Stones: []api.Stone{{Name: "x"}, {Name: "y"}},
	}
}

// with are the sentries that a line tells: the list (as a.opens, x.undo), the On and the name, or none, then a guard, or none; an ampersand between each two.
func with(m api.Model, text string) api.Model {
	m = deep(m)
	for _, s := range strings.Split(text, "&") {
		f := strings.SplitN(strings.TrimSpace(s), " ", 4)
		f = append(f, "", "", "")
		var x api.Sentry
		x.On = uint8(slices.Index([]string{"any", "event", "opened", "closed", "done", "undone"}, f[1]))
		x.Name, x.If = f[2], f[3]
		if f[1] == "any" {
			x.Name, x.If = "", strings.TrimSpace(f[2]+" "+f[3])
		}
		at := strings.Split(f[0], ".")
		for i := range m.Stages {
			if m.Stages[i].Name == at[0] && at[1] == "opens" {
				m.Stages[i].Opens = append(m.Stages[i].Opens, x)
			}
			if m.Stages[i].Name == at[0] && at[1] == "closes" {
				m.Stages[i].Closes = append(m.Stages[i].Closes, x)
			}
		}
		for i := range m.Stones {
			if m.Stones[i].Name == at[0] && at[1] == "done" {
				m.Stones[i].Done = append(m.Stones[i].Done, x)
			}
			if m.Stones[i].Name == at[0] && at[1] == "undo" {
				m.Stones[i].Undo = append(m.Stones[i].Undo, x)
			}
		}
	}
	return m
}

func TestLoops(t *testing.T) {
	for text, e := range map[string]api.Errno{
		// One place.
		"a.opens opened a": api.ErrLoop, "a.closes closed a": api.ErrLoop, "x.done done x": api.ErrLoop, "x.undo undone x": api.ErrLoop,
		"a.opens any open(a)": api.ErrLoop, "a.closes any open(a)": api.ErrLoop, "a.opens any not open(a)": api.ErrLoop, "x.done any done(x)": api.ErrLoop, "x.undo any done(x)": api.ErrLoop, "x.done any not done(x)": api.ErrLoop,
		"a.opens event go true or open(a)": api.ErrLoop, "d.closes event go not (1 = 2 and open(d))": api.ErrLoop,
		// One place, through those that stand within it.
		"a.closes closed b": api.ErrLoop, "a.closes closed c": api.ErrLoop, "a.closes any open(b)": api.ErrLoop, "a.closes any open(c)": api.ErrLoop, "b.closes closed c": api.ErrLoop, "b.closes any open(c)": api.ErrLoop,
		"b.closes closed a": api.OK, "c.closes closed a": api.OK, "c.closes any open(a)": api.OK, "c.closes closed b": api.OK, "a.closes closed d": api.OK, "d.closes closed c": api.OK,
		// What does not lean on itself, though it names what it is about.
		"a.opens closed a": api.OK, "a.closes opened a": api.OK, "x.done undone x": api.OK, "x.undo done x": api.OK, "a.closes event a": api.OK, "a.opens event a": api.OK,
		"a.opens event go open(b)": api.OK, "a.opens opened b": api.OK, "a.opens closed b": api.OK,
		// Two.
		"a.opens opened d & d.opens opened a": api.ErrLoop, "a.closes closed d & d.closes closed a": api.ErrLoop, "x.done done y & y.done done x": api.ErrLoop, "x.undo undone y & y.undo undone x": api.ErrLoop,
		"a.opens any open(d) & d.opens any open(a)": api.ErrLoop, "a.opens any open(d) & d.closes any open(a)": api.ErrLoop, "a.closes any open(d) & d.closes any open(a)": api.ErrLoop, "a.closes any open(d) & d.opens any open(a)": api.ErrLoop,
		"x.done any done(y) & y.done any done(x)": api.ErrLoop, "x.done any done(y) & y.undo any done(x)": api.ErrLoop, "x.undo any done(y) & y.done any done(x)": api.ErrLoop, "x.undo any done(y) & y.undo any done(x)": api.ErrLoop,
		"a.opens closed a & a.closes opened a": api.ErrLoop, "x.done undone x & x.undo done x": api.ErrLoop, "x.done opened a & a.opens any done(x)": api.ErrLoop, "x.undo closed a & a.closes any done(x)": api.ErrLoop,
		"x.done opened a & a.closes any done(x)": api.OK, "x.undo opened a & a.opens done x": api.OK, "a.opens opened d & d.closes opened a": api.OK, "a.opens closed d & d.opens closed a": api.OK, "x.done done y & y.undo done x": api.OK, "x.done done y & y.done undone x": api.OK,
		// Two of one list do not lean on each other, but on themselves.
		"a.opens any & a.opens any": api.OK, "a.opens event go & a.opens opened a": api.ErrLoop,
		// Through In.
		"a.opens opened b & b.opens event go": api.ErrLoop, "a.opens any open(b) & b.opens any": api.ErrLoop, "a.closes opened b & b.opens any": api.ErrLoop, "a.closes opened c & c.opens any": api.ErrLoop, "a.opens opened c & c.opens any": api.OK, "a.opens opened c & c.opens any & b.opens any": api.ErrLoop,
		"a.opens opened b & b.closes event go": api.OK, "a.closes opened b & b.closes any": api.OK, "b.opens any & b.closes opened c & c.opens any": api.ErrLoop, "b.opens closed c & c.closes opened b": api.ErrLoop, "b.opens any & a.opens any & b.closes any & a.closes any & c.opens any & c.closes any": api.OK,
		"a.opens closed b & b.closes opened a": api.ErrLoop, "a.opens any open(b) & b.closes opened a": api.ErrLoop, "d.opens opened b & b.opens any & a.opens closed d": api.OK, "d.opens opened b & b.opens any & a.opens opened d": api.ErrLoop, "d.opens opened b & b.opens any & a.closes opened d": api.ErrLoop, "d.closes opened c & c.opens any & a.closes closed d": api.ErrLoop,
		// Through the closing of what others stand within.
		"x.done closed c & a.closes done x": api.ErrLoop, "x.done closed c & b.closes done x": api.ErrLoop, "x.done closed c & c.closes done x": api.ErrLoop, "x.done closed b & c.closes done x": api.OK, "x.done closed a & b.closes done x": api.OK, "x.done closed c & d.closes done x": api.OK,
		"x.done any open(c) & a.closes done x": api.ErrLoop, "x.done any open(c) & a.opens done x": api.OK, "x.done any open(c) & c.opens done x": api.ErrLoop, "x.done any open(c) & b.opens done x": api.OK, "x.done opened c & a.closes done x": api.OK,
		// Without the sentry that would close them they do not loop.
		"a.opens opened d & d.opens any": api.OK, "x.done done y": api.OK, "x.done any done(y) and open(a) and open(d)": api.OK,
		// Many.
		"a.opens event go & x.done opened a & d.opens done x & y.done opened d & a.closes done y":  api.OK,
		"a.opens closed d & x.done opened a & d.opens done x & y.done opened d & d.closes done y":  api.ErrLoop,
		"x.done any open(d) & y.done any done(x) & x.undo any done(y)":                             api.ErrLoop,
		"x.done any open(d) & y.done done x & x.undo done y & y.undo undone x & d.closes undone y": api.ErrLoop,
		"x.done closed d & y.done done x & x.undo done y & y.undo undone x & d.opens undone y":     api.OK,
	} {
		m := with(nest(), text)
		wantCheck(t, m, e, text)
		// A sentry more that leans on nothing, behind them and ahead of them, changes nothing.
		wantCheck(t, with(m, "d.opens any & x.done any true & c.closes event go"), e, text)
	}
}

// chain has so many stages beside each other, of which each one opens where the next one opened, and the last one as last tells.
func chain(n int, last string) api.Model {
	m := crowd(1, 1, n, 0, 0)
	for i := range m.Stages {
		m.Stages[i].In = -1
		if i < n-1 {
			m.Stages[i].Opens = sentry(api.OnOpened, m.Stages[i+1].Name, "")
		}
	}
	m.Stages[n-1].Opens = sentry(api.OnOpened, last, "")
	if last == "" {
		m.Stages[n-1].Opens = sentry(api.OnAny, "", "")
	}
	return m
}

func TestLongChains(t *testing.T) {
	for _, n := range []int{2, 3, 10, 32} {
		wantCheck(t, chain(n, ""), api.OK, n)
		for i := range n {
			wantCheck(t, chain(n, fmt.Sprint("n", i)), api.ErrLoop, n, i)
		}
	}
	// 128 places, each leaning on the one ahead: opens, closes, milestones reached and undone, again and again.
	m := crowd(0, 1, 32, 32, 0)
	for i := range 32 {
		name, before := fmt.Sprint("n", i), fmt.Sprint("n", i-1)
		m.Stages[i].In = -1
		m.Stages[i].Opens = sentry(api.OnUndone, before, "")
		m.Stages[i].Closes = sentry(api.OnOpened, name, "")
		m.Stones[i].Done = sentry(api.OnClosed, name, "")
		m.Stones[i].Undo = sentry(api.OnDone, name, "")
	}
	m.Stages[0].Opens = sentry(api.OnEvent, "en0", "")
	wantCheck(t, m, api.OK)
	order, _ := Order(m)
	for i, place := range order {
		if place != [3]int{i%4 + 1, i / 4, 0} {
			t.Fatalf("the place %d in the order is %v", i, place)
		}
	}
	m.Stages[0].Opens = sentry(api.OnUndone, "n31", "")
	wantCheck(t, m, api.ErrLoop)
	m.Stages[0].Opens = sentry(api.OnUndone, "n30", "")
	wantCheck(t, m, api.ErrLoop)
	// As deep as may be, through In alone: each opens behind the one that it stands within, and its closing.
	m = crowd(0, 0, 32, 0, 0)
	for i := range m.Stages {
		m.Stages[i].Opens, m.Stages[i].Closes = make([]api.Sentry, 2), make([]api.Sentry, 2)
	}
	wantCheck(t, m, api.OK)
	m.Stages[0].Closes[1] = api.Sentry{On: api.OnClosed, Name: "n31"}
	wantCheck(t, m, api.ErrLoop)
	m.Stages[0].Closes[1] = api.Sentry{If: "open(n31)"}
	wantCheck(t, m, api.ErrLoop)
	m.Stages[0].Closes[1] = api.Sentry{On: api.OnOpened, Name: "n31"}
	wantCheck(t, m, api.ErrLoop)
	// One guard that names all stages and milestones.
	m = crowd(1, 0, 32, 32, 0)
	var all []string
	for _, name := range manyNames(32) {
		all = append(all, "(open("+name+") and done("+name+"))")
	}
	m.Stones[31].Undo = sentry(api.OnAny, "", strings.Join(all[:31], " or "))
	m.Stages[0].Closes, m.Stones[0].Done, m.Stones[30].Undo = make([]api.Sentry, 3), make([]api.Sentry, 3), make([]api.Sentry, 3)
	wantCheck(t, m, api.OK)
	m.Stones[31].Undo[0].If = strings.Join(all[1:], " or ")
	wantCheck(t, m, api.ErrLoop)
}

func wantOrder(t *testing.T, m api.Model, want string) {
	t.Helper()
	order, e := Order(m)
	second := fmt.Sprint(secondOrder(m))
	if want = "[" + want + "]"; fmt.Sprint(order) != want || e != api.OK || second != want {
		t.Errorf("the order is\n%v, %d, not\n%v; the second one is\n%v", order, e, want, second)
	}
}

func TestOrderOfNothing(t *testing.T) {
	wantOrder(t, api.Model{Name: "m"}, "")
	wantOrder(t, nest(), "")
	wantOrder(t, crowd(32, 32, 32, 32, 32), "")
}

// Those that lean on nothing stand as their places rise: first by the kind, then by the number, then by their own.
func TestOrderOfFreePlaces(t *testing.T) {
	wantOrder(t, with(nest(), "y.undo any & x.undo any & y.done any & x.done event go & d.closes any & c.closes any & a.closes event a & d.opens any 1 < 2 & a.opens any & a.opens any & x.undo any & x.undo event a"),
		"[1 0 0] [1 0 1] [1 3 0] [2 0 0] [2 2 0] [2 3 0] [3 0 0] [3 1 0] [4 0 0] [4 0 1] [4 0 2] [4 1 0]")
	m := crowd(0, 0, 12, 12, 0)
	for i := range m.Stages {
		m.Stages[i].In = -1
	}
	m.Stages[10].Opens, m.Stages[2].Opens = make([]api.Sentry, 1), make([]api.Sentry, 11)
	m.Stones[11].Undo, m.Stones[9].Undo = make([]api.Sentry, 1), make([]api.Sentry, 1)
	wantOrder(t, m, "[1 2 0] [1 2 1] [1 2 2] [1 2 3] [1 2 4] [1 2 5] [1 2 6] [1 2 7] [1 2 8] [1 2 9] [1 2 10] [1 10 0] [4 9 0] [4 11 0]")
}

// Each kind of leaning, from the least place to a greater one, so that the order is not the rising one.
func TestOrderOfEachLeaning(t *testing.T) {
	for text, want := range map[string]string{
		"a.opens opened d & d.opens any":             "[1 3 0] [1 0 0]",
		"a.opens closed d & d.closes any":            "[2 3 0] [1 0 0]",
		"a.opens done y & y.done any":                "[3 1 0] [1 0 0]",
		"a.opens undone y & y.undo any":              "[4 1 0] [1 0 0]",
		"a.opens any open(d) & d.opens any":          "[1 3 0] [1 0 0]",
		"a.opens any open(d) & d.closes any":         "[2 3 0] [1 0 0]",
		"a.opens any done(y) & y.done any":           "[3 1 0] [1 0 0]",
		"a.opens any done(y) & y.undo any":           "[4 1 0] [1 0 0]",
		"b.opens any & a.closes any":                 "[2 0 0] [1 1 0]",
		"c.opens any & a.closes any":                 "[2 0 0] [1 2 0]",
		"c.opens any & b.closes any":                 "[2 1 0] [1 2 0]",
		"b.opens any & b.closes any":                 "[1 1 0] [2 1 0]",
		"b.opens any & c.closes any":                 "[1 1 0] [2 2 0]",
		"b.opens any & d.closes any":                 "[1 1 0] [2 3 0]",
		"b.closes any & c.closes any & a.closes any": "[2 0 0] [2 1 0] [2 2 0]",
		"d.opens closed c & a.closes any":            "[2 0 0] [1 3 0]",
		"d.opens closed c & b.closes any":            "[2 1 0] [1 3 0]",
		"d.opens closed c & c.closes any":            "[2 2 0] [1 3 0]",
		"d.opens closed b & c.closes any":            "[1 3 0] [2 2 0]",
		"d.opens closed a & b.closes any":            "[1 3 0] [2 1 0]",
		"d.opens any open(c) & a.closes any":         "[2 0 0] [1 3 0]",
		"d.opens any open(a) & c.closes any":         "[1 3 0] [2 2 0]",
		// What only seems to lean.
		"a.opens opened d & d.closes any":    "[1 0 0] [2 3 0]",
		"a.opens closed d & d.opens any":     "[1 0 0] [1 3 0]",
		"a.opens done y & y.undo any":        "[1 0 0] [4 1 0]",
		"a.opens undone y & y.done any":      "[1 0 0] [3 1 0]",
		"a.opens done x & y.done any":        "[1 0 0] [3 1 0]",
		"a.opens event go & d.opens any":     "[1 0 0] [1 3 0]",
		"d.opens event a & a.closes event a": "[1 3 0] [2 0 0]",
		"b.closes opened c & c.opens any":    "",
	} {
		if want == "" {
			wantCheck(t, with(nest(), text), api.ErrLoop, text)
			continue
		}
		wantOrder(t, with(nest(), text), want)
	}
}

func TestOrderOfChains(t *testing.T) {
	wantOrder(t, chain(5, ""), "[1 4 0] [1 3 0] [1 2 0] [1 1 0] [1 0 0]")
	// The least one that may be is next, though a greater one came to be ready earlier.
	wantOrder(t, with(nest(), "a.opens done x & x.done any & d.opens any & y.undo any"), "[1 3 0] [3 0 0] [1 0 0] [4 1 0]")
	wantOrder(t, with(nest(), "a.opens undone y & a.closes opened a & y.undo done x & x.done any & d.closes any"), "[2 3 0] [3 0 0] [4 1 0] [1 0 0] [2 0 0]")
	// Those that lean on several wait for all of them, of each list for the last one.
	wantOrder(t, with(nest(), "a.opens closed d done(x) and not done(y) & d.closes any & x.done any & x.undo any & y.undo any & y.undo done x"), "[2 3 0] [3 0 0] [4 0 0] [4 1 0] [4 1 1] [1 0 0]")
	wantOrder(t, with(nest(), "a.opens opened d & d.opens any & d.opens done y & y.done any"), "[1 3 0] [3 1 0] [1 3 1] [1 0 0]")
	// By two ways on one list it leans but once.
	wantOrder(t, with(nest(), "b.opens opened a open(a) and not open(a) & a.opens done x & x.done any & a.opens any"), "[1 0 1] [3 0 0] [1 0 0] [1 1 0]")
	wantOrder(t, with(nest(), "c.opens closed b open(a) & c.opens any & b.closes done x done(x) & x.done undone y not done(y) & y.undo event go & a.closes any"), "[2 0 0] [4 1 0] [3 0 0] [2 1 0] [1 2 0] [1 2 1]")
}

// The order has each sentry once, none ahead of one that it leans on, and at each step the least that may be next.
func TestOrderOfDrawnModels(t *testing.T) {
	r := newDrawer(2)
	moved := 0
	for i := range draws {
		m := r.straight(1+r.Intn(6), r.Intn(4), r.Intn(10))
		if i%400 == 0 {
			m = r.straight(1+r.Intn(32), r.Intn(33), 40)
		}
		order, e := Order(m)
		if want := secondOrder(m); e != api.OK || fmt.Sprint(order) != fmt.Sprint(want) {
			t.Fatalf("the order of %+v is %v, %d, not %v", m, order, e, want)
		}
		places, _ := secondPlaces(m)
		if len(order) != len(places) {
			t.Fatalf("%+v has %d sentries, %d in its order", m, len(places), len(order))
		}
		in := map[[3]int]int{}
		for at, place := range order {
			in[place]++
			for _, later := range order[at:] {
				if is, e := Leans(m, place, later); is || e != api.OK {
					t.Fatalf("%v leans on %v, which stands behind it, %d", place, later, e)
				}
			}
		}
		for _, place := range places {
			if in[place] != 1 {
				t.Fatalf("%v is %d times in %v", place, in[place], order)
			}
		}
		if fmt.Sprint(places) != fmt.Sprint(order) {
			moved++
		}
	}
	if moved < draws/10 {
		t.Errorf("%d orders were not the rising one", moved)
	}
}

func wantLeans(t *testing.T, m api.Model, a, b [3]int, want bool, e api.Errno) {
	t.Helper()
	if is, gotE := Leans(m, a, b); is != want || gotE != e {
		t.Errorf("whether %v leans on %v is told by %v, %d, not %v, %d", a, b, is, gotE, want, e)
	}
}

// Each pair of places of some models.
func TestLeansOfAllPairs(t *testing.T) {
	everywhere := "a.opens any & b.opens any & c.opens any & d.opens any & a.closes any & b.closes any & c.closes any & d.closes any & x.done any & y.done any & x.undo any & y.undo any"
	models := []api.Model{full(), with(nest(), everywhere), with(nest(), "b.opens any & a.opens any & a.opens any"), chain(9, "")}
	for _, about := range []string{"opened d", "closed d", "closed c", "done x", "undone x", "any open(c)", "any open(d)", "any done(x)", "event a", "event go", "any", "opened d open(b) and done(x)", "closed a not done(y)"} {
		for _, place := range []string{"a.opens", "c.opens", "a.closes", "c.closes", "y.done", "y.undo", "x.done", "x.undo"} {
			if m := with(with(nest(), place+" "+about), everywhere); secondCheck(m) == api.OK {
				models = append(models, m)
			}
		}
	}
	r := newDrawer(3)
	for range 200 {
		models = append(models, r.straight(1+r.Intn(5), r.Intn(4), 12))
	}
	leaning := 0
	for _, m := range models {
		places, all := secondPlaces(m)
		for i, a := range places {
			for _, b := range places {
				is := secondLeans(m, a, all[i], b)
				wantLeans(t, m, a, b, is, api.OK)
				if is {
					leaning++
				}
			}
		}
	}
	if len(models) < 250 || leaning < 1000 {
		t.Errorf("%d places lean in %d models", leaning, len(models))
	}
}

// b stands within a, c within b; all that some sentries lean on, told by hand.
func TestLeansByHand(t *testing.T) {
	m := with(nest(), "a.opens any & b.opens any & c.opens any & d.opens any & a.closes any & b.closes any & c.closes any & d.closes any & x.done any & y.done any & x.undo any & y.undo any")
	for i, c := range []struct {
		text string // the last sentry of its list
		at   [3]int
		want string
	}{
		{"a.opens event go", [3]int{1, 0, 1}, ""},
		{"a.opens event a", [3]int{1, 0, 1}, ""},
		{"b.opens event go", [3]int{1, 1, 1}, "[1 0 0] [2 0 0]"},
		{"c.opens any", [3]int{1, 2, 1}, "[1 1 0] [2 0 0] [2 1 0]"},
		{"c.closes any", [3]int{2, 2, 1}, ""},
		{"y.done opened a", [3]int{3, 1, 1}, "[1 0 0]"},
		{"y.done closed a", [3]int{3, 1, 1}, "[2 0 0]"},
		{"y.done closed c", [3]int{3, 1, 1}, "[2 0 0] [2 1 0] [2 2 0]"},
		{"y.done done x", [3]int{3, 1, 1}, "[3 0 0]"},
		{"y.done undone y", [3]int{3, 1, 1}, "[4 1 0]"},
		{"y.undo any open(b)", [3]int{4, 1, 1}, "[1 1 0] [2 0 0] [2 1 0]"},
		{"y.undo any done(x)", [3]int{4, 1, 1}, "[3 0 0] [4 0 0]"},
		{"y.undo done y open(d) or done(x)", [3]int{4, 1, 1}, "[1 3 0] [2 3 0] [3 0 0] [3 1 0] [4 0 0]"},
		{"b.opens opened d done(x)", [3]int{1, 1, 1}, "[1 0 0] [1 3 0] [2 0 0] [3 0 0] [4 0 0]"},
	} {
		m := with(m, c.text)
		places, _ := secondPlaces(m)
		var l []string
		for _, b := range places {
			is, e := Leans(m, c.at, b)
			if e != api.OK {
				t.Error(i, b, e)
			}
			if is {
				l = append(l, fmt.Sprint(b))
			}
		}
		if got := strings.Join(l, " "); got != c.want {
			t.Errorf("%s leans on %s, not %s", c.text, got, c.want)
		}
	}
}

func TestLeansOfNoPlaces(t *testing.T) {
	m := with(nest(), "a.opens any & a.opens any & d.opens any & c.closes any & x.done any & y.undo any & y.undo any")
	places, _ := secondPlaces(m)
	good := map[[3]int]int{}
	for _, place := range places {
		good[place]++
	}
	numbers := []int{-1 << 63, -1, 0, 1, 2, 3, 4, 5, 32, 1<<63 - 1}
	none := 0
	for _, kind := range numbers {
		for _, number := range numbers {
			for _, own := range numbers {
				bad := [3]int{kind, number, own}
				if good[bad] > 0 {
					wantLeans(t, m, bad, places[0], false, api.OK)
					continue
				}
				none++
				wantLeans(t, m, bad, places[0], false, api.ErrArg)
				wantLeans(t, m, places[0], bad, false, api.ErrArg)
				wantLeans(t, m, bad, bad, false, api.ErrArg)
			}
		}
	}
	if none != 1000-len(places) {
		t.Error(none)
	}
	for _, text := range []string{"a.opens opened a", "a.opens opened d & d.opens opened a"} {
		wantLeans(t, with(nest(), text), [3]int{1, 0, 0}, [3]int{1, 0, 0}, false, api.ErrLoop)
		wantLeans(t, with(nest(), text), [3]int{0, 0, 0}, [3]int{9, 9, 9}, false, api.ErrLoop)
	}
	for e, turn := range map[api.Errno]func(m *api.Model){api.ErrName: func(m *api.Model) { m.Name = "" }, api.ErrMany: func(m *api.Model) { m.Attrs = make([]api.Attr, 33) }, api.ErrModel: func(m *api.Model) { m.Stages[0].In = 0 }} {
		m := deep(m)
		turn(&m)
		wantLeans(t, m, places[0], places[1], false, e)
		wantLeans(t, m, [3]int{}, places[1], false, e)
		wantLeans(t, m, places[1], [3]int{}, false, e)
	}
}

// The examples of the chapter.
func TestExamples(t *testing.T) {
	m := api.Model{Name: "m", Events: []string{"go"}, Stages: []api.Stage{{Name: "a", In: -1, Opens: sentry(api.OnEvent, "go", "")}, {Name: "b", Opens: sentry(api.OnOpened, "a", "")}}}
	wantCheck(t, m, api.OK)
	wantOrder(t, m, "[1 0 0] [1 1 0]")
	wantLeans(t, m, [3]int{1, 1, 0}, [3]int{1, 0, 0}, true, api.OK)
	wantLeans(t, m, [3]int{1, 0, 0}, [3]int{1, 1, 0}, false, api.OK)
	wantLeans(t, m, [3]int{1, 2, 0}, [3]int{1, 0, 0}, false, api.ErrArg)
	wantLeans(t, m, [3]int{1, 0, 0}, [3]int{1, 2, 0}, false, api.ErrArg)
	looped := deep(m)
	looped.Stages[0].Opens = sentry(api.OnOpened, "b", "")
	wantCheck(t, looped, api.ErrLoop)
	in := deep(m)
	in.Stages[1].In = 1
	wantCheck(t, in, api.ErrModel)
	guarded := deep(m)
	guarded.Stages[1].Opens[0].If = "x"
	wantCheck(t, guarded, api.ErrModel)
}
