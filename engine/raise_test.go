package engine

import (
	"fmt"
	"math"
	"strings"
	"testing"

	"docket/api"
	"docket/json"
	"docket/model"
)

// event is one of this name that gives values: a name, then its value, and so on.
func event(name string, given ...any) api.Event {
	x := api.Event{Name: name}
	for i := 0; i < len(given); i += 2 {
		x.Names, x.Values = append(x.Names, given[i].(string)), append(x.Values, given[i+1].(api.Json))
	}
	return x
}

// wantRaise asks what Raise tells, of both versions, and which stages are open, which milestones reached behind it.
func wantRaise(t *testing.T, m api.Model, c api.Case, x api.Event, told, open, done string, about ...any) api.Case {
	t.Helper()
	if e := model.Check(m); e != api.OK {
		t.Fatalf("%v: the model may not be: %d", about, e)
	}
	after, l, n, e := Raise(m, c, x)
	want, second, asked, secondE := secondRaise(m, c, x)
	if e != api.OK || secondE != api.OK {
		t.Fatalf("%v: Raise tells %d, the second one %d", about, e, secondE)
	}
	if toldText(l) != told || second != told {
		t.Errorf("%v: told was %q, by the second one %q, not %q", about, toldText(l), second, told)
	}
	if n != asked || shown(after) != shown(want) {
		t.Errorf("%v: behind it is %+v, %d asked, not %+v, %d", about, after, n, want, asked)
	}
	is := at(m, open, done)
	if fmt.Sprint(after.Open, after.Done) != fmt.Sprint(is.Open, is.Done) {
		t.Errorf("%v: behind it %v is open, %v reached, not %q, %q", about, after.Open, after.Done, open, done)
	}
	return after
}

func wantRefused(t *testing.T, m api.Model, c api.Case, x api.Event, e api.Errno, about ...any) {
	t.Helper()
	after, l, n, got := Raise(m, c, x)
	if _, _, _, second := secondRaise(m, c, x); got != e || second != e {
		t.Errorf("%v: Raise tells %d, the second one %d, not %d", about, got, second, e)
	}
	if e != api.OK && (!isNothing(after) || l != nil || n != 0) {
		t.Errorf("%v: there is something beside the error: %+v, %v, %d", about, after, l, n)
	}
}

// Each row: the sentries; what is open, what is reached; the event; what is told; what is open, what is reached then.
type row struct{ sentries, open, done, event, told, after, reached string }

func wantRows(t *testing.T, rows []row, given ...any) {
	t.Helper()
	for _, r := range rows {
		m := with(nest(), r.sentries)
		wantRaise(t, m, at(m, r.open, r.done), event(r.event, given...), r.told, r.after, r.reached, r)
	}
}

func TestWaitsForNothing(t *testing.T) {
	wantRows(t, []row{
		{"", "", "", "", "", "", ""}, {"", "a b", "x", "go", "", "a b", "x"},
		{"a.opens any", "", "", "", "opened a", "a", ""}, {"a.opens any", "", "", "go", "opened a", "a", ""}, {"a.opens any", "d", "y", "a", "opened a", "a d", "y"},
		{"a.opens any true", "", "", "", "opened a", "a", ""}, {"a.opens any false", "", "", "go", "", "", ""}, {"a.closes any not false", "a", "", "go", "closed a", "", ""},
		{"x.done any", "", "", "", "done x", "", "x"}, {"x.undo any", "", "x", "", "undone x", "", ""}, {"x.done any false", "", "", "", "", "", ""}, {"x.undo any false", "", "x", "", "", "", "x"},
		{"a.opens any & a.opens any & d.opens any", "", "", "", "opened a, opened d", "a d", ""},
		{"a.opens any open(d)", "d", "", "", "opened a", "a d", ""}, {"a.opens any open(d)", "", "", "", "", "", ""}, {"a.opens any done(y)", "", "y", "", "opened a", "a", "y"}, {"a.opens any done(y)", "", "x", "", "", "", "x"},
	})
}

func TestWaitsForAnEvent(t *testing.T) {
	wantRows(t, []row{
		{"a.opens event go", "", "", "go", "opened a", "a", ""}, {"a.opens event go", "", "", "stop", "", "", ""}, {"a.opens event go", "", "", "", "", "", ""}, {"a.opens event go", "", "", "a", "", "", ""},
		{"a.opens event go true", "", "", "go", "opened a", "a", ""}, {"a.opens event go false", "", "", "go", "", "", ""}, {"a.opens event go true", "", "", "stop", "", "", ""},
		{"d.opens event a", "", "", "a", "opened d", "d", ""}, {"d.opens event e", "a", "", "e", "opened d", "a d", ""}, {"d.opens event a", "", "", "e", "", "", ""},
		{"a.closes event a", "a", "", "a", "closed a", "", ""}, {"x.done event e not done(y)", "", "", "e", "done x", "", "x"}, {"x.undo event stop open(a)", "a", "x y", "stop", "undone x", "a", "y"},
		// The event of a stage with a Role need not find it open, and does not close it.
		{"x.done event a", "", "", "a", "done x", "", "x"}, {"x.done event a", "a b", "", "a", "done x", "a b", "x"},
		{"a.opens event go & x.done event stop & d.opens event go & y.done event go", "", "", "go", "opened a, opened d, done y", "a d", "y"},
	})
}

// What came about in this step counts, not what was so ahead of it.
func TestWaitsForWhatComesAbout(t *testing.T) {
	wantRows(t, []row{
		{"a.opens event go & d.opens opened a", "", "", "go", "opened a, opened d", "a d", ""}, {"a.opens event go & d.opens opened a", "a", "", "go", "", "a", ""}, {"a.opens event go & d.opens opened a", "a", "", "", "", "a", ""}, {"d.opens opened a", "a", "", "go", "", "a", ""},
		{"a.opens event go & d.opens opened a true", "", "", "go", "opened a, opened d", "a d", ""}, {"a.opens event go & d.opens opened a false", "", "", "go", "opened a", "a", ""}, {"a.opens event go & d.opens opened a open(a)", "", "", "go", "opened a, opened d", "a d", ""},
		{"a.closes event go & d.opens closed a", "a", "", "go", "closed a, opened d", "d", ""}, {"a.closes event go & d.opens closed a", "", "", "go", "", "", ""}, {"d.opens closed a", "", "", "go", "", "", ""}, {"a.closes event go & d.opens closed a", "a", "", "stop", "", "a", ""},
		{"a.closes event go & d.opens closed a not open(a)", "a", "", "go", "closed a, opened d", "d", ""}, {"a.closes event go & d.opens closed a open(a)", "a", "", "go", "closed a", "", ""},
		// A stage that closed along with the one that it stands within.
		{"a.closes event go & d.opens closed c", "a b c", "", "go", "closed c, closed b, closed a, opened d", "d", ""}, {"a.closes event go & d.opens closed c", "a b f", "", "go", "closed f, closed b, closed a", "", ""}, {"a.closes event go & x.done closed e & y.done closed b", "a e", "", "go", "closed e, closed a, done x", "", "x"},
		{"x.done event go & d.opens done x", "", "", "go", "done x, opened d", "d", "x"}, {"x.done event go & d.opens done x", "", "x", "go", "", "", "x"}, {"d.opens done x", "", "x", "", "", "", "x"}, {"x.done event go & d.opens done x not done(x)", "", "", "go", "done x", "", "x"}, {"x.done event go & y.done done x done(x)", "", "", "go", "done x, done y", "", "x y"},
		{"x.undo event go & d.opens undone x", "", "x", "go", "undone x, opened d", "d", ""}, {"x.undo event go & d.opens undone x", "", "", "go", "", "", ""}, {"d.opens undone x", "", "", "", "", "", ""}, {"x.undo event go & d.opens undone x done(x)", "", "x", "go", "undone x", "", ""}, {"x.undo event go & y.undo undone x not done(x)", "", "x y", "go", "undone x, undone y", "", ""},
		// What came about counts, though it is not so any more.
		{"a.opens event go & a.closes opened a & x.done opened a & y.done closed a", "", "", "go", "opened a, closed a, done x, done y", "", "x y"},
		{"a.opens event go & a.closes opened a & x.done opened a open(a)", "", "", "go", "opened a, closed a", "", ""},
		{"x.done event go & x.undo done x & a.opens done x & d.opens undone x", "", "", "go", "done x, opened a, undone x, opened d", "a d", ""},
		// Another kind of one name is another thing: a milestone and a stage, what opened and what closed.
		{"a.opens event go & d.opens closed a & y.done closed a", "", "", "go", "opened a", "a", ""}, {"a.closes event go & d.opens opened a & y.done opened a", "a", "", "go", "closed a", "", ""},
		{"x.done event go & d.opens undone x", "", "", "go", "done x", "", "x"}, {"x.undo event go & d.opens done x", "", "x", "go", "undone x", "", ""},
		{"a.opens event go & d.opens opened b", "", "", "go", "opened a", "a", ""}, {"x.done event go & d.opens done y", "", "", "go", "done x", "", "x"},
	})
	m := nest()
	m.Stones[0].Name = "a"
	m = with(m, "a.opens event go & a.done event stop & d.opens done a")
	m.Stages[4].Opens = []api.Sentry{{On: api.OnOpened, Name: "a"}}
	m.Stones[0].Done = []api.Sentry{{On: api.OnEvent, Name: "stop"}}
	wantRaise(t, m, at(m, "", ""), event("go"), "opened a, opened e", "a e", "")
	wantRaise(t, m, at(m, "a", ""), event("stop"), "done a, opened d", "a d", "a")
}

func TestOpens(t *testing.T) {
	wantRows(t, []row{
		{"a.opens any", "a", "", "", "", "a", ""}, {"c.opens any", "a b c", "", "", "", "a b c", ""},
		{"b.opens any", "", "", "", "", "", ""}, {"b.opens any", "d", "", "", "", "d", ""}, {"b.opens any", "a", "", "", "opened b", "a b", ""}, {"c.opens any", "a", "", "", "", "a", ""}, {"c.opens any", "a e", "", "", "", "a e", ""}, {"c.opens any", "a b", "", "", "opened c", "a b c", ""}, {"f.opens any", "a b", "", "", "opened f", "a b f", ""}, {"f.opens any", "a e", "", "", "", "a e", ""},
		// One that stands within it, opened ahead of it or behind it.
		{"a.opens any & b.opens any & c.opens any & e.opens any & f.opens any", "", "", "", "opened a, opened b, opened c, opened e, opened f", "a b c e f", ""},
		{"a.opens event go & b.opens any", "", "", "stop", "", "", ""}, {"a.opens event go & b.opens event go", "", "", "go", "opened a, opened b", "a b", ""}, {"a.opens opened d & b.opens any & d.opens any", "", "", "", "opened d, opened a, opened b", "a b d", ""},
		{"a.closes any & b.opens any", "a", "", "", "closed a", "", ""}, {"b.closes any & c.opens any & e.opens any", "a b", "", "", "opened e, closed b", "a e", ""}, {"a.closes any & c.opens any", "a b", "", "", "closed b, closed a", "", ""},
	})
}

func TestCloses(t *testing.T) {
	wantRows(t, []row{
		{"a.closes any", "", "", "", "", "", ""}, {"b.closes any", "a", "", "", "", "a", ""}, {"a.closes any", "d", "", "", "", "d", ""},
		{"a.closes any", "a", "", "", "closed a", "", ""}, {"c.closes any", "a b c e f", "", "", "closed c", "a b e f", ""}, {"e.closes any", "a b c e f", "", "", "closed e", "a b c f", ""}, {"d.closes any", "a b d", "", "", "closed d", "a b", ""},
		{"a.closes any", "a b c d e f", "", "", "closed f, closed e, closed c, closed b, closed a", "d", ""}, {"b.closes any", "a b c d e f", "", "", "closed f, closed c, closed b", "a d e", ""}, {"a.closes any", "a b f", "x", "", "closed f, closed b, closed a", "", "x"}, {"a.closes any", "a d e", "", "", "closed e, closed a", "d", ""}, {"b.closes any", "a b e", "", "", "closed b", "a e", ""}, {"a.closes any", "a b c", "", "", "closed c, closed b, closed a", "", ""},
		// Inner ones that close on their own, ahead of what they stand within or behind it.
		{"a.closes any & b.closes any & c.closes any", "a b c", "", "", "closed c, closed b, closed a", "", ""}, {"a.closes closed d & b.closes any & d.closes any", "a b c d", "", "", "closed c, closed b, closed d, closed a", "", ""}, {"a.closes any & a.closes any", "a b", "", "", "closed b, closed a", "", ""},
	})
	m := tower()
	m.Stages[5].Closes = []api.Sentry{{}}
	c := at(m, "", "")
	var told []string
	for i := range c.Open {
		c.Open[i] = true
		if i >= 5 {
			told = append([]string{"closed " + m.Stages[i].Name}, told...)
		}
	}
	after, l, _, e := Raise(m, c, api.Event{})
	if e != api.OK || toldText(l) != strings.Join(told, ", ") || !after.Open[4] || after.Open[5] || after.Open[31] {
		t.Errorf("%s was told, %+v is behind it, %d", toldText(l), after, e)
	}
}

func TestReachesAndUndoes(t *testing.T) {
	wantRows(t, []row{
		{"x.done any", "", "x", "", "", "", "x"}, {"x.done any", "", "y", "", "done x", "", "x y"}, {"x.undo any", "", "", "", "", "", ""}, {"x.undo any", "", "y", "", "", "", "y"}, {"y.undo any", "", "x y", "", "undone y", "", "x"},
		{"x.done any & x.undo any", "", "", "", "done x, undone x", "", ""}, {"x.done any & x.undo any", "", "x", "", "undone x", "", ""},
		{"x.done any & x.done any & y.done any", "", "", "", "done x, done y", "", "x y"}, {"x.undo any & y.undo any & y.undo any", "", "x y", "", "undone x, undone y", "", ""},
	})
}

// In one step a thing can come about and be taken back, more than once.
func TestToAndFro(t *testing.T) {
	wantRows(t, []row{
		{"a.opens any & a.closes any", "", "", "", "opened a, closed a", "", ""}, {"a.opens any & a.closes any", "a", "", "", "closed a", "", ""}, {"a.opens event go & a.closes opened a", "", "", "go", "opened a, closed a", "", ""},
		{"a.opens closed a & a.closes event go", "a", "", "go", "closed a, opened a", "a", ""}, {"a.opens closed a & a.closes event go", "", "", "go", "", "", ""},
		{"a.opens event go & a.opens closed a & a.closes event go", "", "", "go", "opened a, closed a, opened a", "a", ""}, {"a.opens event go & a.opens closed a & a.closes event go", "a", "", "go", "closed a, opened a", "a", ""},
		{"x.done event go & x.done undone x & x.undo event go", "", "", "go", "done x, undone x, done x", "", "x"}, {"x.done event go & x.undo done x", "", "", "go", "done x, undone x", "", ""}, {"x.undo event go & x.done undone x", "", "x", "go", "undone x, done x", "", "x"},
		{"x.undo event go & y.undo event go & d.opens undone y & x.done opened d & x.undo done x", "", "x y", "go", "undone x, undone y, opened d, done x, undone x", "d", ""}, {"a.closes event go & y.undo event go & a.opens undone y & a.closes opened a", "a b", "y", "go", "closed b, closed a, undone y, opened a, closed a", "", ""},
	})
}

// A guard sees the case as it is when its sentry is asked.
func TestGuardsSeeTheCaseAsItIs(t *testing.T) {
	wantRows(t, []row{
		{"a.opens event go & x.done event go open(a)", "", "", "go", "opened a, done x", "a", "x"}, {"a.opens event go & x.done event go not open(a)", "", "", "go", "opened a", "a", ""}, {"a.closes event go & x.done event go open(a)", "a", "", "go", "closed a", "", ""}, {"a.closes event go & x.done event go open(b)", "a b", "", "go", "closed b, closed a", "", ""},
		{"x.done event go & a.opens event go done(x)", "", "", "go", "done x, opened a", "a", "x"}, {"x.undo event go & a.opens event go done(x)", "", "x", "go", "undone x", "", ""}, {"x.done event go & y.done event go done(x) & a.opens event go done(y)", "", "", "go", "done x, done y, opened a", "a", "x y"},
		{"x.done any & a.opens event go done(x) and not done(y) & d.opens event go done(x) and open(a)", "", "", "go", "done x, opened a, opened d", "a d", "x"},
	})
}

func TestValuesAreSetFirst(t *testing.T) {
	for _, r := range []struct {
		sentries string
		x        api.Event
		told     string
	}{
		{"a.opens any t", event("", "t", json.Yes(true)), "opened a"}, {"a.opens any t", event("", "t", json.Yes(false)), ""}, {"a.opens any t", event(""), ""}, {"a.opens any not t", event(""), "opened a"}, {"a.opens any not t", event("", "t", json.Yes(true)), ""},
		{"a.opens event go n = 5", event("go", "n", json.Num(5)), "opened a"}, {"a.opens event go n = 5", event("go", "n", json.Num(4)), ""}, {"a.opens event go n = 0", event("go"), "opened a"}, {"a.opens event go n < 0", event("go", "n", json.Num(-1)), "opened a"}, {"a.opens event go n = 5", event("stop", "n", json.Num(5)), ""},
		{"a.opens event go s = 'x y'", event("go", "s", json.Str("x y")), "opened a"}, {"a.opens event go s = ''", event("go"), "opened a"}, {"a.opens event go s = ''", event("go", "s", json.Str(" ")), ""},
		{"a.opens event go t and n = 2 and s = 'b'", event("go", "s", json.Str("b"), "t", json.Yes(true), "n", json.Num(2)), "opened a"}, {"x.done event a n = 2 & d.opens done x", event("a", "n", json.Num(2)), "done x, opened d"},
		// The first sentry of the order and the last one see the same.
		{"a.opens any n = 1 & y.undo any n = 1 & y.done any n = 1", event("", "n", json.Num(1)), "opened a, done y, undone y"},
	} {
		m := with(nest(), r.sentries)
		after, l, n, e := Raise(m, at(m, "", ""), r.x)
		if e != api.OK || toldText(l) != r.told || n != strings.Count(r.sentries, "&")+1 {
			t.Errorf("%v: %q was told, %d asked, %d", r, toldText(l), n, e)
		}
		want, second, _, _ := secondRaise(m, at(m, "", ""), r.x)
		if shown(after) != shown(want) || second != r.told {
			t.Errorf("%v: behind it is %+v, not %+v", r, after, want)
		}
	}
	// What an event does not name stays, and so does what one set in the next step.
	m := with(nest(), "a.opens event go n = 5")
	c := at(m, "", "")
	c = wantRaise(t, m, c, event("stop", "n", json.Num(5), "s", json.Str("x")), "", "", "")
	c = wantRaise(t, m, c, event("", "t", json.Yes(true)), "", "", "")
	c = wantRaise(t, m, c, event("go"), "opened a", "a", "")
	if want := []api.Json{json.Yes(true), json.Num(5), json.Str("x")}; fmt.Sprintf("%+v", c.Values) != fmt.Sprintf("%+v", want) {
		t.Errorf("the values are %+v", c.Values)
	}
	if c.Id != 7 || c.Model != "m" || c.Version != 2 || fmt.Sprint(c.Acted) != "[{ann clerk}]" {
		t.Errorf("the case is %+v", c)
	}
}

func TestGuardsWithoutWorth(t *testing.T) {
	for _, r := range []struct {
		guard string
		n     int64
		holds bool
	}{
		{"n + 1 < 5", math.MaxInt64, false}, {"n + 1 < 5", 3, true}, {"n + 1 = n + 1", math.MaxInt64, false}, {"n + 1 = n + 1", math.MaxInt64 - 1, true}, {"not (n + 1 < 5)", math.MaxInt64, false}, {"not (n + 1 < 5)", 9, true},
		{"n - 1 < 5", math.MinInt64, false}, {"n - 1 < 5", math.MinInt64 + 1, true}, {"n * 2 < 5", math.MinInt64, false}, {"n * 2 < 5", math.MinInt64 / 2, true}, {"n * n < 0 or true", math.MaxInt32 << 2, false}, {"0 - n = n", math.MinInt64, false}, {"not (0 - n = n)", math.MinInt64, false},
		{"true or n + 1 < 5", math.MaxInt64, true}, {"n + 1 < 5 or true", math.MaxInt64, false}, {"false and n + 1 < 5", math.MaxInt64, false}, {"not (false and n + 1 < 5)", math.MaxInt64, true}, {"n + 1 < 5 and false", math.MaxInt64, false},
		{"true and true and n + 1 - 1 = n", math.MaxInt64, false}, {"true and true and n - 1 + 1 = n", math.MaxInt64, true},
	} {
		for _, on := range []string{"any", "event go", "opened d"} {
			m := with(nest(), "x.done "+on+" "+r.guard+" & d.opens event go & y.done event go")
			told, done := "opened d, done y", "y"
			if r.holds {
				told, done = "opened d, done x, done y", "x y"
			}
			wantRaise(t, m, at(m, "", ""), event("go", "n", json.Num(r.n)), told, "d", done, r, on)
		}
	}
}

// crowd has 128 sentries, each of which holds where the one ahead did: two stages and two milestones of each kind, over and over.
func crowd() (api.Model, string) {
	m := api.Model{Name: "m", Events: []string{"go"}}
	var told []string
	last := api.Sentry{On: api.OnEvent, Name: "go"}
	name := func(i int) string { return fmt.Sprint("n", i) }
	for i := range 32 {
		m.Stages = append(m.Stages, api.Stage{Name: name(i), In: -1, Opens: []api.Sentry{last}, Closes: []api.Sentry{{On: api.OnOpened, Name: name(i)}}})
		m.Stones = append(m.Stones, api.Stone{Name: name(i), Done: []api.Sentry{{On: api.OnClosed, Name: name(i)}}, Undo: []api.Sentry{{On: api.OnDone, Name: name(i)}}})
		last = api.Sentry{On: api.OnUndone, Name: name(i)}
		told = append(told, "opened "+name(i), "closed "+name(i), "done "+name(i), "undone "+name(i))
	}
	return m, strings.Join(told, ", ")
}

func TestHowManyAreAsked(t *testing.T) {
	for n, sentries := range []string{"", "x.done any", "x.done any & x.done any", "a.opens event go & b.opens opened a false & y.undo undone x"} {
		m := with(nest(), sentries)
		for _, x := range []string{"", "go", "stop", "a"} {
			if _, _, asked, e := Raise(m, at(m, "", ""), event(x)); asked != n || e != api.OK {
				t.Errorf("%q: %d were asked, %d", sentries, asked, e)
			}
		}
	}
	m, told := crowd()
	wantRaise(t, m, at(m, "", ""), event("go"), told, "", "")
	for _, x := range []string{"", "go"} {
		if _, _, asked, e := Raise(m, at(m, "", ""), event(x)); asked != 128 || e != api.OK {
			t.Errorf("%d of 128 were asked, %d", asked, e)
		}
	}
	wantRaise(t, m, at(m, "", ""), event(""), "", "", "")
	// One on the way does not hold.
	m.Stages[20].Opens[0].If = "false"
	wantRaise(t, m, at(m, "", ""), event("go"), told[:strings.Index(told, ", opened n20")], "", "")
}

// What is told stands in the order in which it came about: the model's order, not that of its lists.
func TestWhatIsToldFirst(t *testing.T) {
	wantRows(t, []row{
		{"y.undo any & y.done any & x.done any & d.closes any & d.opens any & a.opens any", "", "", "", "opened a, opened d, closed d, done x, done y, undone y", "a", "x"},
		{"a.opens opened d & d.opens done y & y.done undone x & x.undo event go", "", "x", "go", "undone x, done y, opened d, opened a", "a d", "y"},
		{"a.opens opened d & d.opens any & x.done any & y.done opened a", "", "", "", "opened d, opened a, done x, done y", "a d", "x y"},
		{"a.opens any done(x) & d.opens any & x.done any", "", "", "", "opened d, done x, opened a", "a d", "x"},
		{"a.closes any done(x) & d.opens any & x.done any & e.closes any", "a e", "", "", "opened d, closed e, done x, closed a", "d", "x"},
	})
}

func TestEvents(t *testing.T) {
	m := nest()
	c := at(m, "a b", "x")
	for name, e := range map[string]api.Errno{
		"": api.OK, "go": api.OK, "stop": api.OK, "a": api.OK, "e": api.OK,
		"b": api.ErrEvent, "c": api.ErrEvent, "d": api.ErrEvent, "f": api.ErrEvent, "x": api.ErrEvent, "t": api.ErrEvent, "m": api.ErrEvent, "clerk": api.ErrEvent, "zz": api.ErrEvent, "Go": api.ErrEvent, "go ": api.ErrEvent, "\x00": api.ErrEvent, strings.Repeat("g", 33): api.ErrEvent,
	} {
		wantRefused(t, m, c, event(name), e, name)
		wantRefused(t, m, c, event(name, "n", json.Num(1)), e, name)
		wantRefused(t, m, c, event(name, "z", json.Num(1)), api.ErrEvent, name)
		// The case goes ahead of the event, the model ahead of both.
		wantRefused(t, m, at(m, "b", ""), event(name, "z", json.Num(1)), api.ErrCase, name)
		wantRefused(t, with(m, "a.opens any z"), at(m, "b", ""), event(name), api.ErrModel, name)
		wantRefused(t, with(m, "a.opens any open(a)"), at(m, "a", ""), event(name), api.ErrLoop, name)
	}
	wantRefused(t, api.Model{}, c, event("go"), api.ErrName)
	bare := api.Model{Name: "m"}
	wantRefused(t, bare, at(bare, "", ""), event(""), api.OK)
	wantRefused(t, bare, at(bare, "", ""), event("go"), api.ErrEvent)
	wantRefused(t, bare, at(bare, "", ""), event("", "n", json.Num(1)), api.ErrEvent)
	wantRefused(t, bare, at(bare, "", ""), api.Event{Names: []string{}, Values: []api.Json{}}, api.OK)
}

func TestEventsLists(t *testing.T) {
	m := nest()
	c := at(m, "a b", "x")
	num, yes, str := json.Num(1), json.Yes(true), json.Str("x")
	for i, r := range []struct {
		names  string
		values []api.Json
		e      api.Errno
	}{
		{"n", nil, api.ErrEvent}, {"", []api.Json{num}, api.ErrEvent}, {"n", []api.Json{num, num}, api.ErrEvent}, {"n t", []api.Json{num}, api.ErrEvent}, {"n t", []api.Json{num, yes, str}, api.ErrEvent}, {"n t s", []api.Json{num, yes}, api.ErrEvent},
		{"n t s", []api.Json{num, yes, str}, api.OK}, {"s n t", []api.Json{str, num, yes}, api.OK}, {"t", []api.Json{yes}, api.OK}, {"s t", []api.Json{str, yes}, api.OK},
		{"n n", []api.Json{num, num}, api.ErrEvent}, {"n t n", []api.Json{num, yes, num}, api.ErrEvent}, {"t n n", []api.Json{yes, num, json.Num(2)}, api.ErrEvent}, {"n t s t", []api.Json{num, yes, str, yes}, api.ErrEvent},
		{"z", []api.Json{num}, api.ErrEvent}, {"n z", []api.Json{num, num}, api.ErrEvent}, {"z n", []api.Json{num, num}, api.ErrEvent}, {"a", []api.Json{yes}, api.ErrEvent}, {"x", []api.Json{yes}, api.ErrEvent}, {"go", []api.Json{yes}, api.ErrEvent}, {"N", []api.Json{num}, api.ErrEvent}, {"nn", []api.Json{num}, api.ErrEvent},
		{"n t s", []api.Json{yes, num, str}, api.ErrEvent}, {"n t s", []api.Json{num, yes, num}, api.ErrEvent},
	} {
		for _, name := range []string{"", "go", "a"} {
			wantRefused(t, m, c, api.Event{Name: name, Names: strings.Fields(r.names), Values: r.values}, r.e, i, name)
		}
	}
	wantRefused(t, m, c, api.Event{Names: []string{""}, Values: []api.Json{num}}, api.ErrEvent)
	wantRefused(t, m, c, api.Event{Names: []string{"n", ""}, Values: []api.Json{num, {}}}, api.ErrEvent)
}

func TestEventsValues(t *testing.T) {
	m := nest()
	c := at(m, "a b", "x")
	good, bad := values()
	for _, a := range m.Attrs {
		for kind, l := range good {
			for k, v := range l {
				e := api.ErrEvent
				if kind == a.Kind {
					e = api.OK
				}
				wantRefused(t, m, c, event("go", a.Name, v), e, a.Name, kind, k)
			}
		}
		for k, v := range bad {
			wantRefused(t, m, c, event("go", a.Name, v), api.ErrEvent, a.Name, k)
			for _, b := range m.Attrs {
				if b.Name != a.Name {
					wantRefused(t, m, c, event("", b.Name, good[b.Kind][0], a.Name, v), api.ErrEvent, a.Name, b.Name, k)
				}
			}
		}
	}
}
