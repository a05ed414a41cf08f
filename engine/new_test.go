package engine

import (
	"fmt"
	"math"
	"testing"

	"docket/api"
	"docket/json"
	"docket/model"
)

func wantNew(t *testing.T, m api.Model, id, version int, told string, e api.Errno, about ...any) api.Case {
	t.Helper()
	c, l, got := New(m, id, version)
	want, second, secondE := secondNew(m, id, version)
	if got != e || secondE != e {
		t.Errorf("%v: New tells %d, the second one %d, not %d", about, got, secondE, e)
	}
	if toldText(l) != told || second != told {
		t.Errorf("%v: told was %q, by the second one %q, not %q", about, toldText(l), second, told)
	}
	if shown(c) != shown(want) {
		t.Errorf("%v: New is %+v, not %+v", about, c, want)
	}
	if e != api.OK && (!isNothing(c) || l != nil) {
		t.Errorf("%v: there is something beside the error: %+v, %v", about, c, l)
	}
	if e == api.OK && Check(m, c) != api.OK {
		t.Errorf("%v: %+v may not be", about, c)
	}
	return c
}

func TestNewsErrors(t *testing.T) {
	for e, m := range map[api.Errno]api.Model{api.ErrName: {}, api.ErrMany: {Name: "m", Events: make([]string, 33)}, api.ErrModel: with(nest(), "a.opens any z"), api.ErrLoop: with(nest(), "a.opens any open(a)"), api.OK: nest()} {
		if model.Check(m) != e {
			t.Fatal(e)
		}
		for _, id := range []int{math.MinInt, -1, 0, 1, math.MaxInt32, math.MaxInt32 + 1, math.MaxUint32 + 1, math.MaxInt} {
			for _, version := range []int{math.MinInt, -1, 0, 1, math.MaxInt32, math.MaxInt32 + 1, math.MaxUint32 + 1, math.MaxInt} {
				want := e
				if e == api.OK && (id < 0 || id > math.MaxInt32 || version < 0 || version > math.MaxInt32) {
					want = api.ErrArg
				}
				wantNew(t, m, id, version, "", want, e, id, version)
			}
		}
	}
}

func TestNewIsAtFirst(t *testing.T) {
	c := wantNew(t, nest(), 5, 6, "", api.OK)
	want := api.Case{Id: 5, Model: "m", Version: 6, Values: []api.Json{json.Yes(false), json.Num(0), json.Str("")}, Open: make([]bool, 6), Done: make([]bool, 2)}
	if shown(c) != shown(want) {
		t.Errorf("New is %+v, not %+v", c, want)
	}
	for kind, v := range map[uint8]api.Json{api.IsBool: {Kind: api.Bool}, api.IsInt: {Kind: api.Int}, api.IsText: {Kind: api.Text}} {
		c := wantNew(t, api.Model{Name: "n", Attrs: []api.Attr{{Name: "z", Kind: kind}, {Name: "b", Kind: kind}}}, 0, 0, "", api.OK, kind)
		if len(c.Values) != 2 || !json.Same(c.Values[0], v) || !json.Same(c.Values[1], v) || c.Model != "n" {
			t.Errorf("an attribute of %d is %+v at first", kind, c.Values)
		}
	}
	wantNew(t, api.Model{Name: "m"}, 0, 0, "", api.OK)
}

// The step of the event without a name is asked at once.
func TestNewsStep(t *testing.T) {
	for sentries, told := range map[string]string{
		"a.opens any":       "opened a",
		"a.opens any not t": "opened a", "a.opens any t": "", "a.opens any n = 0": "opened a", "a.opens any s = ''": "opened a", "a.opens any n < 0": "",
		"a.opens any & b.opens any & x.done any & y.done done x": "opened a, opened b, done x, done y",
		"b.opens any & a.closes any & x.undo any":                "",
		"a.opens any & a.closes any":                             "opened a, closed a",
		"a.opens event go & d.opens event a & x.done event stop": "",
		"a.opens event go & d.opens any & x.done opened d":       "opened d, done x",
		"x.done any & x.undo done x & d.opens undone x":          "done x, undone x, opened d",
		"x.done any not done(x) or true":                         "",
	} {
		m := with(nest(), sentries)
		if sentries == "x.done any not done(x) or true" {
			wantNew(t, m, 1, 1, "", api.ErrLoop, sentries)
			continue
		}
		c := wantNew(t, m, 1, 1, told, api.OK, sentries)
		// What is told turned what there was at first: nothing.
		w := worldOf(m, c)
		for _, s := range m.Stages {
			if w.open[s.Name] != (countTold(told, "opened "+s.Name) > countTold(told, "closed "+s.Name)) {
				t.Errorf("%q: %+v is behind %q", sentries, c, told)
			}
		}
	}
}

// The examples of the chapter.
func TestExamples(t *testing.T) {
	m := api.Model{Name: "m", Events: []string{"go"}, Stages: []api.Stage{
		{Name: "a", In: -1, Opens: []api.Sentry{{On: api.OnEvent, Name: "go"}}}, {Name: "b", In: 0, Opens: []api.Sentry{{On: api.OnOpened, Name: "a"}}},
	}}
	c, l, e := New(m, 1, 1)
	if shown(c) != shown(api.Case{Id: 1, Model: "m", Version: 1, Open: []bool{false, false}}) || len(l) != 0 || e != api.OK {
		t.Errorf("New is %+v, %v, %d", c, l, e)
	}
	c, l, n, e := Raise(m, c, api.Event{Name: "go"})
	if fmt.Sprint(c.Open) != "[true true]" || fmt.Sprint(l) != fmt.Sprint([]api.Step{{On: api.OnOpened, Name: "a"}, {On: api.OnOpened, Name: "b"}}) || n != 2 || e != api.OK {
		t.Errorf("Raise is %+v, %v, %d, %d", c, l, n, e)
	}
	c, l, n, e = Raise(m, c, api.Event{Name: "go"})
	if fmt.Sprint(c.Open) != "[true true]" || len(l) != 0 || n != 2 || e != api.OK {
		t.Errorf("Raise is %+v, %v, %d, %d", c, l, n, e)
	}
	c, l, n, e = Raise(m, c, api.Event{Name: "stop"})
	if !isNothing(c) || l != nil || n != 0 || e != api.ErrEvent {
		t.Errorf("Raise is %+v, %v, %d, %d", c, l, n, e)
	}
}
