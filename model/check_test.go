package model

import (
	"fmt"
	"strings"
	"testing"

	"docket/api"
)

func sentry(on uint8, name, guard string) []api.Sentry {
	return []api.Sentry{{On: on, Name: name, If: guard}}
}

// full has something of all that a model can have; it may be.
func full() api.Model {
	return api.Model{
		Name:   "claim",
		Attrs:  []api.Attr{{Name: "t", Kind: api.IsBool}, {Name: "n", Kind: api.IsInt}, {Name: "x", Kind: api.IsText}, {Name: "a", Kind: api.IsBool}},
		Events: []string{"go", "stop", "e-3"},
		Stages: []api.Stage{
			{Name: "a", In: -1, Opens: []api.Sentry{{On: api.OnEvent, Name: "go"}, {If: "t and a"}}, Closes: sentry(api.OnEvent, "a", ""), Role: "clerk"},
			{Name: "b", In: 0, Opens: sentry(api.OnOpened, "a", "n < 10"), After: 5, Event: "stop"},
			{Name: "c", In: 1, Opens: sentry(api.OnAny, "", "x = 'a'"), Closes: []api.Sentry{{On: api.OnEvent, Name: "e-3", If: "not open(a)"}, {On: api.OnClosed, Name: "b"}}, Role: "boss", After: api.MaxClock, Event: "go"},
			{Name: "d", In: -1, Opens: sentry(api.OnClosed, "b", "")},
		},
		Stones: []api.Stone{
			{Name: "a", Done: sentry(api.OnOpened, "d", ""), Undo: sentry(api.OnEvent, "stop", "done(r)")},
			{Name: "r", Done: []api.Sentry{{On: api.OnClosed, Name: "a"}, {On: api.OnAny}}, Undo: sentry(api.OnUndone, "r2", "")},
			{Name: "r2", Done: sentry(api.OnDone, "a", "not done(r) or open(c)"), Undo: sentry(api.OnEvent, "c", "")},
		},
		Apart: [][2]string{{"clerk", "boss"}, {"boss", "clerk"}, {"a", "go"}},
	}
}

// wantCheck asks that all calls tell e of m, with nothing beside an error.
func wantCheck(t *testing.T, m api.Model, e api.Errno, about ...any) {
	t.Helper()
	got, second := Check(m), secondCheck(m)
	if got != e || second != e {
		t.Errorf("%v: Check tells %d, the second one %d, not %d", fmt.Sprint(about...), got, second, e)
	}
	order, orderE := Order(m)
	is, leansE := Leans(m, [3]int{9, 9, 9}, [3]int{})
	v, toE := To(m)
	wantLeans := e
	if e == api.OK {
		wantLeans = api.ErrArg
	}
	if orderE != e || leansE != wantLeans || toE != e || is {
		t.Errorf("%v: Order tells %d, Leans %v, %d, To %d, not %d", fmt.Sprint(about...), orderE, is, leansE, toE, e)
	}
	if e != api.OK && (order != nil || v.Kind != 0 || v.Names != nil || v.Items != nil) {
		t.Errorf("%v: there is something beside the error: %v, %v", fmt.Sprint(about...), order, v)
	}
}

// wantTurned turns a model that is full, and checks it.
func wantTurned(t *testing.T, e api.Errno, turn func(m *api.Model), about ...any) {
	t.Helper()
	m := full()
	turn(&m)
	wantCheck(t, m, e, about...)
}

var (
	goodNames = []string{"z", "z9-_.", "z" + strings.Repeat("a", 31), "andy", "or1", "opened", "truee", "no", "done-"}
	badNames  = []string{"", "z" + strings.Repeat("a", 32), strings.Repeat("z", 9999), strings.Repeat("z", 20000), "and", "or", "not", "true", "false", "open", "done", "1", "9z", "-z", "_z", ".z", "Z", "zZ", "z z", " z", "z ", "(z)", "z\n", "z\x00", "é", "zé", "z\xff", "'z'", "z=z", "open(a)", "z,z"}
)

func TestCheckOfNothing(t *testing.T) {
	wantCheck(t, api.Model{}, api.ErrName)
	wantCheck(t, api.Model{Name: "m"}, api.OK)
	wantCheck(t, full(), api.OK)
	wantCheck(t, api.Model{Name: "m", Attrs: []api.Attr{}, Events: []string{}, Stages: []api.Stage{}, Stones: []api.Stone{}, Apart: [][2]string{}}, api.OK)
}

// Each thing that has a name, beside each text that is one, and each that is none.
func TestCheckNames(t *testing.T) {
	for what, set := range map[string]func(m *api.Model, s string){
		"attribute": func(m *api.Model, s string) { m.Attrs[1].Name, m.Stages[1].Opens = s, nil },
		"event":     func(m *api.Model, s string) { m.Events = append(m.Events, s) },
		"stage":     func(m *api.Model, s string) { m.Stages = append(m.Stages, api.Stage{Name: s}) },
		"milestone": func(m *api.Model, s string) { m.Stones = append(m.Stones, api.Stone{Name: s}) },
		"first":     func(m *api.Model, s string) { m.Apart[0][0] = s },
		"second":    func(m *api.Model, s string) { m.Apart[2][1] = s },
	} {
		for _, s := range goodNames {
			wantTurned(t, api.OK, func(m *api.Model) { set(m, s) }, what, s)
		}
		for _, s := range badNames {
			wantTurned(t, api.ErrModel, func(m *api.Model) { set(m, s) }, what, s)
		}
	}
	for _, s := range goodNames {
		wantTurned(t, api.OK, func(m *api.Model) { m.Name = s }, s)
		wantTurned(t, api.OK, func(m *api.Model) { m.Stages[2].Role = s }, s)
	}
	for _, s := range badNames {
		wantTurned(t, api.ErrName, func(m *api.Model) { m.Name = s }, s)
		if s != "" {
			wantTurned(t, api.ErrModel, func(m *api.Model) { m.Stages[2].Role = s }, s)
		}
	}
	wantTurned(t, api.OK, func(m *api.Model) { m.Stages[2].Role, m.Stones[2].Undo = "", nil })
}

// What is named twice in one list, first and last, and in the middle.
func TestCheckNamesOfOneKind(t *testing.T) {
	for i := range 4 {
		for j := range i {
			wantTurned(t, api.ErrModel, func(m *api.Model) { m.Attrs[i] = m.Attrs[j] }, i, j)
			wantTurned(t, api.ErrModel, func(m *api.Model) { m.Attrs[j].Name = m.Attrs[i].Name }, i, j)
			bare := api.Model{Name: "m", Stages: []api.Stage{{Name: "a"}, {Name: "b"}, {Name: "c"}, {Name: "d"}}, Stones: []api.Stone{{Name: "a"}, {Name: "b"}, {Name: "c"}, {Name: "d"}}, Events: []string{"e", "f", "g", "h"}}
			for k := range bare.Stages {
				bare.Stages[k].In = -1
			}
			wantCheck(t, bare, api.OK)
			stages, stones, events := deep(bare), deep(bare), deep(bare)
			stages.Stages[i].Name = stages.Stages[j].Name
			stones.Stones[i].Name = stones.Stones[j].Name
			events.Events[i] = events.Events[j]
			for _, m := range []api.Model{stages, stones, events} {
				wantCheck(t, m, api.ErrModel, i, j)
			}
			// What has nothing but its name of another one's may not be, either.
			stages.Stages[i] = api.Stage{Name: stages.Stages[j].Name, In: -1, Role: "r", Opens: sentry(api.OnAny, "", "")}
			wantCheck(t, stages, api.ErrModel, i, j)
		}
	}
}

// One name may be an attribute's, a stage's, a milestone's and a role's, but not an event's and a stage's.
func TestCheckNamesOfOtherKinds(t *testing.T) {
	wantCheck(t, api.Model{Name: "z", Attrs: []api.Attr{{Name: "z", Kind: 1}}, Stages: []api.Stage{{Name: "z", In: -1, Role: "z"}}, Stones: []api.Stone{{Name: "z"}}, Apart: [][2]string{{"z", "y"}}}, api.OK)
	wantCheck(t, api.Model{Name: "z", Attrs: []api.Attr{{Name: "z", Kind: 1}}, Events: []string{"z"}, Stages: []api.Stage{{Name: "y", In: -1, Role: "z"}}, Stones: []api.Stone{{Name: "z"}}, Apart: [][2]string{{"z", "y"}}}, api.OK)
	for i := range full().Stages {
		for j := range 4 {
			wantTurned(t, api.ErrModel, func(m *api.Model) {
				m.Events = append(m.Events, "w")
				m.Events[j] = m.Stages[i].Name
			}, i, j)
			m := api.Model{Name: "m", Events: []string{"e", "f", "g", "h"}, Stages: []api.Stage{{Name: "a", In: -1}, {Name: "b", In: -1}, {Name: "c", In: -1, Role: "r"}, {Name: "d", In: -1}}}
			m.Events[j] = m.Stages[i].Name
			wantCheck(t, m, api.ErrModel, i, j)
		}
	}
}

func manyNames(n int) []string {
	var l []string
	for i := range n {
		l = append(l, fmt.Sprint("n", i))
	}
	return l
}

// crowd has so many of each thing.
func crowd(attrs, events, stages, stones, apart int) api.Model {
	m := api.Model{Name: "m"}
	for _, name := range manyNames(attrs) {
		m.Attrs = append(m.Attrs, api.Attr{Name: name, Kind: api.IsInt})
	}
	for _, name := range manyNames(events) {
		m.Events = append(m.Events, "e"+name)
	}
	for i, name := range manyNames(stages) {
		m.Stages = append(m.Stages, api.Stage{Name: name, In: i - 1})
	}
	for _, name := range manyNames(stones) {
		m.Stones = append(m.Stones, api.Stone{Name: name})
	}
	for _, name := range manyNames(apart) {
		m.Apart = append(m.Apart, [2]string{name, "r"})
	}
	return m
}

func TestCheckMany(t *testing.T) {
	wantCheck(t, crowd(32, 32, 32, 32, 32), api.OK)
	for i := range 5 {
		counts := [5]int{}
		for _, n := range []int{31, 32, 33, 34, 64, 1000} {
			counts[i] = n
			e := api.OK
			if n > 32 {
				e = api.ErrMany
			}
			wantCheck(t, crowd(counts[0], counts[1], counts[2], counts[3], counts[4]), e, i, n)
		}
		counts = [5]int{32, 32, 32, 32, 32}
		counts[i] = 33
		wantCheck(t, crowd(counts[0], counts[1], counts[2], counts[3], counts[4]), api.ErrMany, i)
	}
}

func TestCheckManySentries(t *testing.T) {
	free := make([]api.Sentry, 129)
	for kind := range 4 {
		for _, n := range []int{127, 128, 129} {
			e := api.OK
			if n > 128 {
				e = api.ErrMany
			}
			m := crowd(0, 0, 2, 2, 0)
			l := lists(&m)
			*l[[]int{2, 3, 6, 7}[kind]] = free[:n]
			wantCheck(t, m, e, kind, n)
			// Spread over all four kinds, of the first and of the last ones.
			m = crowd(0, 0, 32, 32, 0)
			l = lists(&m)
			for i := range n {
				to := l[(i*37+kind)%len(l)]
				*to = append(*to, api.Sentry{})
			}
			wantCheck(t, m, e, kind, n)
		}
	}
	for i := range 4 {
		m := crowd(0, 0, 2, 2, 0)
		for j, at := range []int{0, 3, 4, 7} {
			*lists(&m)[at] = free[:32]
			if j == i {
				*lists(&m)[at] = free[:33]
			}
		}
		wantCheck(t, m, api.ErrMany, i)
	}
}

// Each of two errors at once: the one that is looked for ahead is told.
func TestCheckInItsOrder(t *testing.T) {
	name := func(m *api.Model) { m.Name = "N" }
	many := []func(m *api.Model){
		func(m *api.Model) { m.Attrs = make([]api.Attr, 33) }, func(m *api.Model) { m.Events = make([]string, 33) }, func(m *api.Model) { m.Stages = make([]api.Stage, 33) },
		func(m *api.Model) { m.Stones = make([]api.Stone, 33) }, func(m *api.Model) { m.Apart = make([][2]string, 33) }, func(m *api.Model) { m.Stones[0].Undo = make([]api.Sentry, 129) },
	}
	model := []func(m *api.Model){
		func(m *api.Model) { m.Attrs[0].Name = "" }, func(m *api.Model) { m.Events[0] = "" }, func(m *api.Model) { m.Stages[3].Name = "A" }, func(m *api.Model) { m.Stones[1].Name = "a" },
		func(m *api.Model) { m.Apart[0][0] = "1" }, func(m *api.Model) { m.Stones[0].Done[0].On = 6 }, func(m *api.Model) { m.Stages[3].In = 3 }, func(m *api.Model) { m.Stages[0].Event = "go" },
	}
	loop := func(m *api.Model) { m.Stages[0].Opens[1].If = "open(c)" }
	wantTurned(t, api.ErrLoop, loop)
	wantTurned(t, api.ErrName, func(m *api.Model) { name(m); loop(m) })
	for i, more := range many {
		wantTurned(t, api.ErrMany, more, i)
		wantTurned(t, api.ErrName, func(m *api.Model) { name(m); more(m) }, i)
		wantTurned(t, api.ErrMany, func(m *api.Model) { loop(m); more(m) }, i)
		for j, fault := range model {
			wantTurned(t, api.ErrMany, func(m *api.Model) { fault(m); more(m) }, i, j)
			wantTurned(t, api.ErrName, func(m *api.Model) { fault(m); more(m); name(m) }, i, j)
		}
	}
	for j, fault := range model {
		wantTurned(t, api.ErrModel, fault, j)
		wantTurned(t, api.ErrName, func(m *api.Model) { name(m); fault(m) }, j)
		wantTurned(t, api.ErrModel, func(m *api.Model) { loop(m); fault(m) }, j)
	}
}

func TestCheckKinds(t *testing.T) {
	for kind := range 256 {
		e := api.ErrModel
		if kind >= 1 && kind <= 3 {
			e = api.OK
		}
		m := api.Model{Name: "m", Attrs: []api.Attr{{Name: "a", Kind: 2}, {Name: "b", Kind: uint8(kind)}}}
		wantCheck(t, m, e, kind)
		m.Attrs[0], m.Attrs[1] = m.Attrs[1], m.Attrs[0]
		wantCheck(t, m, e, kind)
	}
}

func TestCheckIn(t *testing.T) {
	for i := range 4 {
		for _, in := range []int{-1 << 63, -1000, -2, -1, 0, 1, 2, 3, 4, 31, 32, 1<<63 - 1} {
			e := api.ErrModel
			if in >= -1 && in < i {
				e = api.OK
			}
			m := crowd(0, 0, 4, 0, 0)
			m.Stages[i].In = in
			wantCheck(t, m, e, i, in)
		}
	}
}

func TestCheckDeadlines(t *testing.T) {
	m := api.Model{Name: "m", Attrs: []api.Attr{{Name: "n", Kind: 1}}, Events: []string{"go", "stop"}, Stages: []api.Stage{{Name: "a", In: -1, Role: "r"}, {Name: "b", In: -1}}, Stones: []api.Stone{{Name: "x"}}, Apart: [][2]string{{"p", "q"}}}
	for i := range 2 {
		for _, after := range []int{-1 << 63, -1, 0, 1, 1<<40 - 1, 1 << 40, 1<<40 + 1, 1<<63 - 1} {
			for _, event := range []string{"", "go", "stop", "a", "b", "n", "x", "p", "r", "m", "none", "G", "g", "go,stop"} {
				e := api.ErrModel
				if after == 0 && event == "" || after > 0 && after <= api.MaxClock && (event == "go" || event == "stop") {
					e = api.OK
				}
				m := deep(m)
				m.Stages[i].After, m.Stages[i].Event = after, event
				wantCheck(t, m, e, i, after, event)
			}
		}
	}
}

// Each On beside each name that is something's, in each of the four lists.
func TestCheckWaits(t *testing.T) {
	m := api.Model{Name: "m", Attrs: []api.Attr{{Name: "n", Kind: 1}}, Events: []string{"go", "stop"}, Stages: []api.Stage{{Name: "a", In: -1, Role: "r"}, {Name: "b", In: -1}, {Name: "c", In: -1}}, Stones: []api.Stone{{Name: "x"}, {Name: "y"}, {Name: "z"}}, Apart: [][2]string{{"p", "q"}}}
	right := [][]string{{""}, {"go", "stop", "a"}, {"a", "b"}, {"a", "b"}, {"x", "y"}, {"x", "y"}}
	for at := range 12 {
		if at != 4 && at != 5 && at != 10 && at != 11 {
			continue // those of c and z, which nothing waits for
		}
		for on := range 256 {
			for _, name := range []string{"", "go", "stop", "a", "b", "x", "y", "n", "r", "p", "m", "none", "A", "g", "open", " "} {
				e := api.ErrModel
				if on < 6 {
					for _, is := range right[on] {
						if is == name {
							e = api.OK
						}
					}
				}
				if on > 8 && on < 250 && name != "" {
					continue
				}
				m := deep(m)
				*lists(&m)[at] = sentry(uint8(on), name, "")
				wantCheck(t, m, e, at, on, name)
				// Behind one that may be, too.
				*lists(&m)[at] = append([]api.Sentry{{}}, *lists(&m)[at]...)
				wantCheck(t, m, e, at, on, name)
			}
		}
	}
}

func TestCheckGuards(t *testing.T) {
	m := api.Model{Name: "m", Attrs: []api.Attr{{Name: "t", Kind: 1}, {Name: "n", Kind: 2}, {Name: "x", Kind: 3}}, Events: []string{"go"}, Stages: []api.Stage{{Name: "a", In: -1, Role: "r"}, {Name: "b", In: -1}}, Stones: []api.Stone{{Name: "x"}, {Name: "y"}}, Apart: [][2]string{{"p", "q"}}}
	long := "'" + strings.Repeat("a", 16378) + "'=x"
	for s, e := range map[string]api.Errno{
		"": api.OK, "true": api.OK, " t ": api.OK, "not t": api.OK, "n = 1": api.OK, "n + 1 < 7": api.OK, "x = 'é'": api.ErrModel, "x = '\"'": api.OK, "open(a)": api.OK, "done(x)": api.OK, "(t and open(a)) or not done(x)": api.OK,
		" ": api.ErrModel, "n": api.ErrModel, "7": api.ErrModel, "x": api.ErrModel, "'true'": api.ErrModel, "n + 1": api.ErrModel, "n and t": api.ErrModel, "n = t": api.ErrModel, "1 <": api.ErrModel, "t t": api.ErrModel, "(t": api.ErrModel, "T": api.ErrModel,
		"u": api.ErrModel, "a": api.ErrModel, "go": api.ErrModel, "open(x)": api.ErrModel, "open(t)": api.ErrModel, "open(none)": api.ErrModel, "done(a)": api.ErrModel, "done(none)": api.ErrModel, "true or u": api.ErrModel, "false and open(none)": api.ErrModel,
		strings.Repeat("not ", 31) + "t": api.OK, strings.Repeat("not ", 32) + "t": api.ErrModel,
		long: api.OK, long + " ": api.OK, long + "  ": api.OK, long + "   ": api.ErrModel,
	} {
		for at := 2; at < 8; at++ {
			if at == 4 || at == 5 {
				continue // those of x, which guards ask for
			}
			m := deep(m)
			*lists(&m)[at] = []api.Sentry{{}, {On: api.OnEvent, Name: "go", If: s}}
			wantCheck(t, m, e, at, s[:min(len(s), 30)], len(s))
		}
	}
}

func TestCheckApart(t *testing.T) {
	for i := range 3 {
		for pair, e := range map[[2]string]api.Errno{{"p", "q"}: api.OK, {"q", "p"}: api.OK, {"p", "p"}: api.ErrModel, {"a", "n"}: api.OK, {"", ""}: api.ErrModel, {"", "p"}: api.ErrModel, {"p", ""}: api.ErrModel, {"P", "p"}: api.ErrModel, {"p", "P"}: api.ErrModel, {"clerk", "clerk"}: api.ErrModel} {
			wantTurned(t, e, func(m *api.Model) { m.Apart[i] = pair }, i, pair)
		}
	}
	// A pair may be there twice, and each role in many of them.
	wantTurned(t, api.OK, func(m *api.Model) { m.Apart = [][2]string{{"p", "q"}, {"p", "q"}, {"q", "p"}, {"p", "r"}} })
}

func TestCheckOfDrawnModels(t *testing.T) {
	r := newDrawer(1)
	told := map[api.Errno]int{}
	for range draws {
		m := r.any(6, 4, 8)
		for range r.Intn(3) {
			m = r.turned(m)
		}
		e := Check(m)
		if want := secondCheck(m); e != want {
			t.Fatalf("Check tells %d of %+v, not %d: %v", e, m, want, secondFaults(m))
		}
		told[e]++
	}
	for _, e := range []api.Errno{api.OK, api.ErrName, api.ErrModel, api.ErrLoop} {
		if told[e] < 100 {
			t.Errorf("%d was told %d times alone", e, told[e])
		}
	}
}
