package model

import (
	"fmt"
	"math"
	"slices"
	"strings"
	"testing"

	"docket/api"
	"docket/json"
)

// shown is a model with all that can be told apart, whether its lists are nil or empty.
func shown(m api.Model) string { return fmt.Sprintf("%q", fmt.Sprintf("%+v", m)) }

func wantTo(t *testing.T, m api.Model, want string) {
	t.Helper()
	v, e := To(m)
	if e != api.OK || written(v) != want || json.Check(v) != api.OK {
		t.Errorf("To tells\n%s, %d, %d, not\n%s", written(v), e, json.Check(v), want)
	}
	if second := secondText(m); second != want {
		t.Errorf("the second To tells\n%s, not\n%s", second, want)
	}
}

func value(t *testing.T, text string) api.Json {
	t.Helper()
	v, _, e := json.Read(text)
	if e != api.OK {
		t.Fatalf("%s is no value: %d", text, e)
	}
	return v
}

// wantFrom asks that v is told as e, and, if that is OK, as the model m; and whether the second one tells the same.
func wantFrom(t *testing.T, v api.Json, m api.Model, e api.Errno) {
	t.Helper()
	got, gotE := From(v)
	if gotE != e || shown(got) != shown(m) {
		t.Errorf("From of %.2000s is\n%+v, %d, not\n%+v, %d", written(v), got, gotE, m, e)
	}
	second, secondE := secondFrom(v)
	if secondE != e || shown(second) != shown(m) {
		t.Errorf("the second From of %.2000s is\n%+v, %d, not\n%+v, %d", written(v), second, secondE, m, e)
	}
}

func wantFromText(t *testing.T, text string, m api.Model, e api.Errno) {
	t.Helper()
	wantFrom(t, value(t, text), m, e)
}

func TestTo(t *testing.T) {
	wantTo(t, api.Model{Name: "m"}, `{"name":"m","attrs":[],"events":[],"stages":[],"stones":[],"apart":[]}`)
	wantTo(t, full(), `{"name":"claim","attrs":[["t","bool"],["n","int"],["x","text"],["a","bool"]],"events":["go","stop","e-3"],"stages":[`+
		`{"name":"a","in":-1,"opens":[["event","go",""],["any","","t and a"]],"closes":[["event","a",""]],"role":"clerk","after":0,"event":""},`+
		`{"name":"b","in":0,"opens":[["opened","a","n < 10"]],"closes":[],"role":"","after":5,"event":"stop"},`+
		`{"name":"c","in":1,"opens":[["any","","x = 'a'"]],"closes":[["event","e-3","not open(a)"],["closed","b",""]],"role":"boss","after":1099511627776,"event":"go"},`+
		`{"name":"d","in":-1,"opens":[["closed","b",""]],"closes":[],"role":"","after":0,"event":""}],"stones":[`+
		`{"name":"a","done":[["opened","d",""]],"undo":[["event","stop","done(r)"]]},`+
		`{"name":"r","done":[["closed","a",""],["any","",""]],"undo":[["undone","r2",""]]},`+
		`{"name":"r2","done":[["done","a","not done(r) or open(c)"]],"undo":[["event","c",""]]}],`+
		`"apart":[["clerk","boss"],["boss","clerk"],["a","go"]]}`)
	// Each list is a List where it is empty, nil or not.
	m := api.Model{Name: "m", Attrs: []api.Attr{}, Events: []string{}, Stages: []api.Stage{}, Stones: []api.Stone{}, Apart: [][2]string{}}
	v, e := To(m)
	for i, x := range v.Items {
		if i > 0 && (x.Kind != api.List || len(x.Items) != 0) || e != api.OK {
			t.Error(i, x, e)
		}
	}
}

func TestToOfTheGreatest(t *testing.T) {
	m := crowd(32, 32, 32, 32, 32)
	for i := range m.Stages {
		m.Stages[i].In, m.Stages[i].Role, m.Stages[i].After, m.Stages[i].Event = i-1, strings.Repeat("r", 32), 1<<40, "en31"
		m.Stages[i].Opens, m.Stages[i].Closes = make([]api.Sentry, 2), make([]api.Sentry, 2)
	}
	wantTo(t, m, secondText(m))
	v, _ := To(m)
	wantFrom(t, v, m, api.OK)
	// Beyond what a text may be, but a value that may be.
	long := "'" + strings.Repeat("\"", 16377) + "' = ''"
	m = api.Model{Name: "m", Stages: []api.Stage{{Name: "a", In: -1, Opens: []api.Sentry{{If: long}, {If: long}}}}}
	wantTo(t, m, secondText(m))
	v, _ = To(m)
	wantFrom(t, v, m, api.OK)
	if _, e := json.Text(v); e != api.ErrText {
		t.Error(e)
	}
}

// Each word of Kinds and of On, there and back.
func TestWords(t *testing.T) {
	base := nest()
	base.Attrs = []api.Attr{{Name: "p", Kind: 1}, {Name: "q", Kind: 2}, {Name: "r", Kind: 3}}
	for at := range 12 {
		if at == 0 || at == 8 || at == 9 {
			continue // those of a and x, which are waited for
		}
		for on, name := range []string{"", "go", "a", "a", "x", "x"} {
			m := deep(base)
			*lists(&m)[at] = []api.Sentry{{On: uint8(on), Name: name, If: "q < 3"}}
			v, e := To(m)
			if e == api.ErrLoop && at == 1 && on == 3 {
				continue // a closes where a closes
			}
			text := written(v)
			if want := fmt.Sprintf(`[["%s","%s","q < 3"]]`, []string{"any", "event", "opened", "closed", "done", "undone"}[on], name); e != api.OK || strings.Count(text, want) != 1 {
				t.Errorf("%s, %d, does not tell %s", text, e, want)
			}
			if want := `"attrs":[["p","bool"],["q","int"],["r","text"]]`; !strings.Contains(text, want) {
				t.Errorf("%s does not tell %s", text, want)
			}
			wantFrom(t, v, m, api.OK)
		}
	}
	// Words that are none, and one where the other ones stand.
	for _, word := range []string{"", "Bool", "BOOL", "boolean", "bool ", "int\x00", "number", "texts", "any", "1", "none", "null", "bool,int"} {
		wantFrom(t, object(field{"name", json.Str("m")}, field{"attrs", json.Rows([]api.Json{textsValue("a", word)})}), api.Model{}, api.ErrBad)
	}
	for _, word := range []string{"", "Any", "ANY", "events", "open", "close", "stone", "do", "undo", "any ", " any", "0", "none", "int", "done,undone", "undoned"} {
		for _, list := range []string{"opens", "closes"} {
			stage := object(field{"name", json.Str("a")}, field{list, json.Rows([]api.Json{textsValue(word, "", "")})})
			wantFrom(t, object(field{"name", json.Str("m")}, field{"stages", json.Rows([]api.Json{stage})}), api.Model{}, api.ErrBad)
		}
		for _, list := range []string{"done", "undo"} {
			stone := object(field{"name", json.Str("a")}, field{list, json.Rows([]api.Json{textsValue("any", "", ""), textsValue(word, "", "")})})
			wantFrom(t, object(field{"name", json.Str("m")}, field{"stones", json.Rows([]api.Json{stone})}), api.Model{}, api.ErrBad)
		}
	}
}

func TestFrom(t *testing.T) {
	m := full()
	wantFromText(t, secondText(m), m, api.OK)
	wantFromText(t, `{"name":"m"}`, api.Model{Name: "m"}, api.OK)
	wantFromText(t, `{}`, api.Model{}, api.ErrName)
	wantFromText(t, `{"name":""}`, api.Model{}, api.ErrName)
	// Names in another order, at each level.
	wantFromText(t, `{"stones":[{"undo":[["any","","true"]],"name":"x","done":[]}],"apart":[["p","q"]],"events":["go"],"stages":[{"event":"go","after":3,"role":"r","closes":[["event","go",""]],"opens":[],"in":-1,"name":"s"}],"name":"m","attrs":[["n","int"]]}`,
		api.Model{Name: "m", Attrs: []api.Attr{{Name: "n", Kind: 2}}, Events: []string{"go"}, Apart: [][2]string{{"p", "q"}},
			Stages: []api.Stage{{Name: "s", In: -1, Closes: sentry(1, "go", ""), Role: "r", After: 3, Event: "go"}}, Stones: []api.Stone{{Name: "x", Undo: sentry(0, "", "true")}}}, api.OK)
	// What is not there is empty; In is -1 then, not 0.
	wantFromText(t, `{"name":"m","stages":[{"name":"a"},{"name":"b"}],"stones":[{"name":"a"}]}`, api.Model{Name: "m", Stages: []api.Stage{{Name: "a", In: -1}, {Name: "b", In: -1}}, Stones: []api.Stone{{Name: "a"}}}, api.OK)
	wantFromText(t, `{"name":"m","stages":[{}]}`, api.Model{}, api.ErrModel)
	wantFromText(t, `{"name":"m","stones":[{}]}`, api.Model{}, api.ErrModel)
	wantFromText(t, `{"stages":[{}]}`, api.Model{}, api.ErrName)
}

// Each thing that may stand on its own, and may be no model.
func TestFromOfOtherValues(t *testing.T) {
	for _, text := range []string{"null", "true", "false", "0", "-1", "1.5", `""`, `"m"`, "[]", "[{}]", `[{"name":"m"}]`, `["name","m"]`} {
		wantFromText(t, text, api.Model{}, api.ErrBad)
	}
	name := json.Str("m")
	deepest := json.Rows(nil)
	for range 40 {
		deepest = json.Rows([]api.Json{deepest})
	}
	for i, v := range []api.Json{
		{Kind: 7}, {Kind: 255}, {Kind: api.Object, Int: 1, Names: []string{"name"}, Items: []api.Json{name}}, {Kind: api.Object, Text: "m"}, {Kind: api.Object, Bool: true},
		{Kind: api.Object, Names: []string{"name"}}, {Kind: api.Object, Items: []api.Json{name}}, {Kind: api.Object, Names: []string{"name", "name"}, Items: []api.Json{name, name}},
		{Kind: api.Object, Names: []string{"name", "apart"}, Items: []api.Json{name}}, {Kind: api.Object, Names: []string{"name"}, Items: []api.Json{{Kind: api.Text, Text: "m", Int: 1}}},
		{Kind: api.Object, Names: []string{"name"}, Items: []api.Json{{Kind: api.Text, Text: "\xff"}}}, {Kind: api.Object, Names: []string{"name"}, Items: []api.Json{{Kind: api.Text, Text: strings.Repeat("m", 16385)}}},
		{Kind: api.Object, Names: []string{"name", "attrs"}, Items: []api.Json{name, deepest}}, {Kind: api.Object, Names: []string{"name", "attrs"}, Items: []api.Json{name, {Kind: api.List, Items: make([]api.Json, 1025)}}},
		{Kind: api.Object, Names: []string{"name", "apart"}, Items: []api.Json{name, {Kind: api.List, Names: []string{"a"}}}},
	} {
		if m, e := From(v); e != api.ErrBad || shown(m) != shown(api.Model{}) {
			t.Errorf("%d: From is %+v, %d", i, m, e)
		}
	}
}

// parts are the paths of all values within v, as numbers of items.
func parts(v api.Json) [][]int {
	l := [][]int{nil}
	for i, x := range v.Items {
		for _, path := range parts(x) {
			l = append(l, append([]int{i}, path...))
		}
	}
	return l
}

// at is v with by done to what stands at a path.
func at(v api.Json, path []int, by func(x api.Json) api.Json) api.Json {
	if len(path) == 0 {
		return by(v)
	}
	v.Names, v.Items = slices.Clone(v.Names), slices.Clone(v.Items)
	v.Items[path[0]] = at(v.Items[path[0]], path[1:], by)
	return v
}

// wantAsSecond asks that From tells what the second one tells; it tells the error.
func wantAsSecond(t *testing.T, v api.Json) api.Errno {
	t.Helper()
	m, e := From(v)
	second, secondE := secondFrom(v)
	if e != secondE || shown(m) != shown(second) {
		t.Fatalf("From of %.3000s is\n%+v, %d, not\n%+v, %d", written(v), m, e, second, secondE)
	}
	return e
}

// Each value within one that is full in turn as each other one, with an item more, and one less, each name left out, and turned.
func TestFromOfEachTurnedPart(t *testing.T) {
	v, _ := To(full())
	others := []api.Json{{}, json.Yes(false), json.Num(0), json.Num(1), {Kind: api.Number, Text: "1.0"}, {Kind: api.Number, Text: "-0"}, json.Str(""), json.Str("a"), json.Rows(nil), json.Rows([]api.Json{json.Str("a")}), object(), object(field{"name", json.Str("a")})}
	told := map[api.Errno]int{}
	for _, path := range parts(v) {
		var here api.Json
		at(v, path, func(x api.Json) api.Json { here = x; return x })
		for _, x := range others {
			e := wantAsSecond(t, at(v, path, func(api.Json) api.Json { return x }))
			if e != api.ErrBad && x.Kind != here.Kind {
				t.Errorf("%v at %v is told %d", x, path, e)
			}
			told[e]++
		}
		for _, x := range others {
			more := at(v, path, func(y api.Json) api.Json {
				if y.Kind == api.Object {
					y.Names = append(slices.Clone(y.Names), "more")
				}
				y.Items = append(slices.Clone(y.Items), x)
				return y
			})
			if e := wantAsSecond(t, more); e != api.ErrBad && here.Kind != api.List {
				t.Errorf("%v more at %v is told %d", x, path, e)
			}
		}
		for i := range here.Items {
			less := at(v, path, func(y api.Json) api.Json {
				if y.Kind == api.Object {
					y.Names = slices.Delete(slices.Clone(y.Names), i, i+1)
				}
				y.Items = slices.Delete(slices.Clone(y.Items), i, i+1)
				return y
			})
			told[wantAsSecond(t, less)]++
			if here.Kind != api.Object {
				continue
			}
			for _, name := range []string{"", "Name", "name ", "x", strings.ToUpper(here.Names[i]), here.Names[i] + "s", here.Names[i][1:], "in", "name", "done", "opens", "attrs"} {
				turned := at(v, path, func(y api.Json) api.Json {
					y.Names = slices.Clone(y.Names)
					y.Names[i] = name
					return y
				})
				told[wantAsSecond(t, turned)]++
			}
		}
	}
	for _, e := range []api.Errno{api.OK, api.ErrName, api.ErrModel, api.ErrBad} {
		if told[e] < 1 {
			t.Error(e, told)
		}
	}
}

func TestFromNumbers(t *testing.T) {
	for _, n := range []int64{math.MinInt64, -32, -2, -1, 0, 1, 2, 3, 30, 31, 32, 33, 1 << 32, 1<<32 - 1, math.MaxInt64} {
		for at := range 3 {
			m := crowd(0, 0, 3, 0, 0)
			m.Stages[at].In = int(n)
			e := api.ErrBad
			if n >= -1 && n <= 31 {
				e = api.ErrModel
			}
			if n >= -1 && n < int64(at) {
				e = api.OK
			}
			want := m
			if e != api.OK {
				want = api.Model{}
			}
			wantFromText(t, secondText(m), want, e)
		}
	}
	for _, n := range []int64{math.MinInt64, -1, 0, 1, 1<<40 - 1, 1 << 40, 1<<40 + 1, 1 << 41, 1 << 62, math.MaxInt64} {
		m := crowd(0, 1, 2, 0, 0)
		m.Stages[1].After, m.Stages[1].Event = int(n), "en0"
		e := api.OK
		if n == 0 {
			e = api.ErrModel
		}
		if n < 0 || n > 1<<40 {
			e = api.ErrBad
		}
		want := m
		if e != api.OK {
			want = api.Model{}
		}
		wantFromText(t, secondText(m), want, e)
	}
	// As a Number they are of another Kind.
	for _, text := range []string{"0.0", "1e0", "-0", "9223372036854775808", `"0"`, "null", "false", "[]"} {
		wantFromText(t, `{"name":"m","stages":[{"name":"a","in":`+text+`}]}`, api.Model{}, api.ErrBad)
		wantFromText(t, `{"name":"m","stages":[{"name":"a","after":`+text+`}]}`, api.Model{}, api.ErrBad)
	}
}

// Lists too short and too long, and empty.
func TestFromOfListsOfOtherLengths(t *testing.T) {
	lists := map[string]struct {
		right   []string
		ahead   string
		behind  string
		allowed int
	}{
		"attrs":  {[]string{"a", "int", "a", "a"}, `"attrs":[`, `]`, 2},
		"apart":  {[]string{"a", "b", "c", "d"}, `"apart":[`, `]`, 2},
		"opens":  {[]string{"any", "", "true", "", ""}, `"stages":[{"name":"s","opens":[`, `]}]`, 3},
		"closes": {[]string{"any", "", "true", "", ""}, `"stages":[{"name":"s","closes":[`, `]}]`, 3},
		"done":   {[]string{"any", "", "true", "", ""}, `"stones":[{"name":"s","done":[`, `]}]`, 3},
		"undo":   {[]string{"any", "", "true", "", ""}, `"stones":[{"name":"s","undo":[`, `]}]`, 3},
	}
	for name, c := range lists {
		for n := range len(c.right) + 1 {
			var l []string
			for _, s := range c.right[:n] {
				l = append(l, `"`+s+`"`)
			}
			text := `{"name":"m",` + c.ahead + "[" + strings.Join(l, ",") + "]" + c.behind + "}"
			want := api.ErrBad
			if n == c.allowed {
				want = api.OK
			}
			if e := wantAsSecond(t, value(t, text)); e != want {
				t.Errorf("%s with %d is told %d", name, n, e)
			}
		}
	}
}

// That something is bad goes ahead of all that Check tells.
func TestFromInItsOrder(t *testing.T) {
	for text, e := range map[string]api.Errno{
		`{"name":"M"}`: api.ErrName, `{"name":"M","x":1}`: api.ErrBad, `{"x":1}`: api.ErrBad, `{"name":"M","attrs":[["a"]]}`: api.ErrBad, `{"name":"M","apart":[["a","a"]]}`: api.ErrName, `{"name":"m","apart":[["a","a"]]}`: api.ErrModel,
		`{"apart":[["a","a"]],"name":0}`: api.ErrBad, `{"name":"m","stages":[{"name":"a","opens":[["opened","a",""]]}]}`: api.ErrLoop, `{"name":"m","stages":[{"name":"a","opens":[["opened","a",""]],"in":32}]}`: api.ErrBad,
		`{"name":"m","stages":[{"name":"a","opens":[["opened","a",""]]}],"stones":[{"name":"b","done":[["all","",""]]}]}`: api.ErrBad, `{"name":"m","stages":[{"name":"a","opens":[["opened","a",""]],"role":"open"}]}`: api.ErrModel,
		`{"name":"m","stages":[{"name":"a","after":1099511627777}],"attrs":[["A","int"]]}`: api.ErrBad, `{"name":"m","attrs":[["A","int"]]}`: api.ErrModel, `{"name":"m","events":["go","go"]}`: api.ErrModel, `{"name":"m","stones":[{"name":"a","done":[["done","b",""]]}]}`: api.ErrModel,
	} {
		wantFromText(t, text, api.Model{}, e)
	}
	// Too many of each thing.
	for _, list := range []string{"attrs", "events", "stages", "stones", "apart"} {
		item := map[string]api.Json{"attrs": textsValue("a", "int"), "events": json.Str("a"), "stages": object(), "stones": object(), "apart": textsValue("a", "a")}[list]
		for _, n := range []int{33, 1024, 1025} {
			l := make([]api.Json, n)
			for i := range l {
				l[i] = item
			}
			v := object(field{"name", json.Str("m")}, field{list, json.Rows(l)})
			want := api.ErrMany
			if n > 1024 {
				want = api.ErrBad
			}
			wantFrom(t, v, api.Model{}, want)
			if n == 33 {
				l[32] = json.Num(1)
				wantFrom(t, object(field{"name", json.Str("m")}, field{list, json.Rows(l)}), api.Model{}, api.ErrBad)
				l[32] = item
				wantFrom(t, object(field{"name", json.Str("M")}, field{list, json.Rows(l)}), api.Model{}, api.ErrName)
			}
		}
	}
	for _, n := range []int{128, 129} {
		l := make([]api.Json, n)
		for i := range l {
			l[i] = textsValue("any", "", "")
		}
		m := api.Model{Name: "m", Stones: []api.Stone{{Name: "a", Done: make([]api.Sentry, 128)}}}
		want := api.OK
		if n > 128 {
			m, want = api.Model{}, api.ErrMany
		}
		stone := object(field{"name", json.Str("a")}, field{"done", json.Rows(l)})
		wantFrom(t, object(field{"name", json.Str("m")}, field{"stones", json.Rows([]api.Json{stone})}), m, want)
	}
}

// What is told of a model that may not be is what Check tells of it.
func TestFromTellsWhatCheckTells(t *testing.T) {
	r := newDrawer(4)
	told := map[api.Errno]int{}
	for range draws {
		m := r.any(5, 3, 7)
		for range r.Intn(3) {
			m = r.turned(m)
		}
		sayable := true
		for _, a := range m.Attrs {
			sayable = sayable && a.Kind > 0 && a.Kind < 4
		}
		for _, l := range lists(&m) {
			for _, s := range *l {
				sayable = sayable && s.On < 6
			}
		}
		for _, s := range m.Stages {
			sayable = sayable && s.In >= -1 && s.In < 32 && s.After >= 0 && s.After <= 1<<40
		}
		if !sayable {
			continue
		}
		v := value(t, secondText(m))
		want := m
		e := Check(m)
		if e != api.OK {
			want = api.Model{}
		}
		wantFrom(t, v, want, e)
		told[e]++
	}
	for _, e := range []api.Errno{api.OK, api.ErrName, api.ErrModel, api.ErrLoop} {
		if told[e] < 50 {
			t.Error(e, told)
		}
	}
}
