package engine

import (
	"fmt"
	"math"
	"strings"
	"testing"

	"docket/api"
	"docket/json"
	"docket/model"
)

func wantMove(t *testing.T, old, now api.Model, c api.Case, version int, e api.Errno, about ...any) api.Case {
	t.Helper()
	d, got := Move(old, now, c, version)
	want, second := secondMove(old, now, c, version)
	if got != e || second != e {
		t.Errorf("%v: Move tells %d, the second one %d, not %d", about, got, second, e)
	}
	if shown(d) != shown(want) {
		t.Errorf("%v: Move is %+v, not %+v", about, d, want)
	}
	if e != api.OK && !isNothing(d) {
		t.Errorf("%v: there is something beside the error: %+v", about, d)
	}
	if e == api.OK && Check(now, d) != api.OK {
		t.Errorf("%v: %+v may not be", about, d)
	}
	return d
}

// badModels have each error of a model.
func badModels() map[api.Errno]api.Model {
	return map[api.Errno]api.Model{api.ErrName: {}, api.ErrMany: {Name: "m", Events: make([]string, 33)}, api.ErrModel: with(nest(), "a.opens any z"), api.ErrLoop: with(nest(), "a.opens any open(a)")}
}

func TestMovesErrors(t *testing.T) {
	m, named := nest(), nest()
	named.Name = "n"
	good, bad := at(m, "a b", "x"), at(m, "b", "x")
	wantMove(t, m, m, good, 3, api.OK)
	wantMove(t, m, m, bad, 3, api.ErrCase)
	wantMove(t, m, named, good, 3, api.ErrCase)
	for _, version := range []int{math.MinInt, -1, math.MaxInt32 + 1, math.MaxUint32 + 1, math.MaxInt} {
		wantMove(t, m, m, good, version, api.ErrArg, version)
		wantMove(t, m, named, good, version, api.ErrArg, version)
		wantMove(t, m, m, bad, version, api.ErrCase, version)
	}
	for _, version := range []int{0, 1, math.MaxInt32} {
		if d := wantMove(t, m, m, good, version, api.OK, version); d.Version != version || d.Id != 7 || d.Model != "m" {
			t.Errorf("Move is %+v", d)
		}
	}
	for e, x := range badModels() {
		if model.Check(x) != e {
			t.Fatal(e)
		}
		for _, version := range []int{-1, 1} {
			wantMove(t, x, m, good, version, e, e)
			wantMove(t, x, m, bad, version, e, e)
			wantMove(t, m, x, good, version, e, e)
			wantMove(t, named, x, good, version, api.ErrCase, e)
			wantMove(t, m, x, bad, version, api.ErrCase, e)
			for other, y := range badModels() {
				wantMove(t, x, y, good, version, e, e, other)
			}
		}
	}
	// A case of the new model alone is none of the old one.
	wantMove(t, api.Model{Name: "m"}, m, good, 3, api.ErrCase)
	c := good
	c.Model = "n"
	wantMove(t, m, named, c, 3, api.ErrCase)
	wantMove(t, named, m, c, 3, api.ErrCase)
	wantMove(t, named, named, c, 3, api.OK)
}

func TestMoveToTheSame(t *testing.T) {
	for _, open := range []string{"", "a", "a b c d e f", "d", "a e"} {
		for _, done := range []string{"", "x", "x y"} {
			c := at(nest(), open, done)
			c.Values = []api.Json{json.Yes(true), json.Num(math.MinInt64), json.Str("é")}
			if d := wantMove(t, nest(), nest(), c, c.Version, api.OK, open, done); shown(d) != shown(c) {
				t.Errorf("Move to the same is %+v, not %+v", d, c)
			}
			// Sentries of either model count for nothing: no step is made.
			if d := wantMove(t, nest(), with(nest(), "a.opens any & b.opens any & x.done any & y.undo any & d.closes any"), c, c.Version, api.OK, open, done); shown(d) != shown(c) {
				t.Errorf("Move makes a step: %+v, not %+v", d, c)
			}
			wantMove(t, with(nest(), "a.opens any & d.closes any & x.undo any"), nest(), c, 9, api.OK, open, done)
		}
	}
}

func TestMoveAttrs(t *testing.T) {
	c := at(nest(), "", "")
	c.Values = []api.Json{json.Yes(true), json.Num(5), json.Str("x")}
	for text, want := range map[string]string{
		"t1 n2 s3": "true 5 x", "s3 n2 t1": "x 5 true", "n2 t1 s3": "5 true x", "t1": "true", "s3": "x", "": "", "n2 n-2": "5 0", "x1 t1 y2 z3 n2": "false true 0 \"\" 5",
		"t2 n3 s1": "0 \"\" false", "t3 n1 s2": "\"\" false 0", "t2 n2 s2": "0 5 0", "s1 t1": "false true", "z3 z1": "ERR",
	} {
		now := api.Model{Name: "m"}
		for _, f := range strings.Fields(text) {
			now.Attrs = append(now.Attrs, api.Attr{Name: f[:len(f)-1], Kind: f[len(f)-1] - '0'})
		}
		if want == "ERR" {
			wantMove(t, nest(), now, c, 1, api.ErrModel, text)
			continue
		}
		var l []string
		for _, v := range wantMove(t, nest(), now, c, 1, api.OK, text).Values {
			l = append(l, map[uint8]string{api.Bool: fmt.Sprint(v.Bool), api.Int: fmt.Sprint(v.Int), api.Text: map[bool]string{true: `""`, false: v.Text}[v.Text == ""]}[v.Kind])
		}
		if got := strings.Join(l, " "); got != want {
			t.Errorf("%q: the values are %q, not %q", text, got, want)
		}
	}
}

// stagesOf tells stages by their names, each behind a slash and what it stands within, if anything.
func stagesOf(text string) api.Model {
	m := api.Model{Name: "m"}
	numbers := map[string]int{"": -1}
	for i, f := range strings.Fields(text) {
		name, in, _ := strings.Cut(f, "/")
		m.Stages = append(m.Stages, api.Stage{Name: name, In: numbers[in]})
		numbers[name] = i
	}
	return m
}

func TestMoveStages(t *testing.T) {
	for _, r := range []struct{ old, open, now, want string }{
		{"a b c", "a c", "c b a", "c a"}, {"a b c", "a c", "a", "a"}, {"a b c", "a c", "b", ""}, {"a b c", "a c", "", ""}, {"a", "a", "x a y", "a"}, {"a b", "a b", "b z a", "b a"}, {"a", "", "a x", ""},
		// Within another one: one that is open, that is not, that is new.
		{"a b", "a b", "a b/a", "a b"}, {"a b", "b", "a b/a", ""}, {"a b", "a", "a b/a", "a"}, {"a b", "a b", "x b/x a", "a"}, {"a b/a", "a b", "x a/x b/a", ""}, {"a b/a", "a b", "x a b/x", "a"}, {"a b/a", "a b", "b a/b", "b a"}, {"a b/a", "a", "b a/b", ""}, {"a b/a", "a b", "b a", "b a"}, {"a b/a", "a b", "b", "b"},
		{"a b/a c/b", "a b c", "a c/a b/c", "a c b"}, {"a b/a c/b", "a b c", "a x/a b/x c/b", "a"}, {"a b/a c/b", "a b c", "x a/x b c/b", "b c"}, {"a b/a c/b", "a b c", "a b c/a", "a b c"}, {"a b/a c/b", "a b", "a c/a b/c", "a"}, {"a b/a c/b", "a b", "c b/c a/b", ""}, {"a b/a c/b", "a b c", "c b/c a/b", "c b a"}, {"a b/a c/b", "a b c", "c", "c"}, {"a b/a c/b", "a b c", "x/ b c/b", "b c"},
		{"a b c", "a b c", "a b/a x/b c/x", "a b"}, {"a b c", "b c", "a b/a c/b", ""}, {"a b c", "a c", "a b/a c/b", "a"}, {"a b c d", "a b d", "a b/a c/b d/c", "a b"}, {"a b c d", "a b d", "a b/a c/b d/b", "a b d"},
	} {
		old, now := stagesOf(r.old), stagesOf(r.now)
		d := wantMove(t, old, now, at(old, r.open, ""), 1, api.OK, r)
		if fmt.Sprint(d.Open) != fmt.Sprint(at(now, r.want, "").Open) {
			t.Errorf("%v: %v is open", r, d.Open)
		}
	}
	// At each depth one that is not open, or not there: what stands within it is not open any more.
	old := api.Model{Name: "m", Stages: tower().Stages}
	for i := range old.Stages {
		old.Stages[i].In = -1
	}
	for depth := range 32 {
		c, gone := at(old, "", ""), tower()
		for i := range c.Open {
			c.Open[i] = i != depth
		}
		gone.Stages[depth].Name = "new"
		d, f := wantMove(t, old, tower(), c, 1, api.OK, depth), wantMove(t, old, gone, at(tower(), allStages(), ""), 1, api.OK, depth)
		for i := range 32 {
			if d.Open[i] != (i < depth) || f.Open[i] != (i < depth) {
				t.Fatalf("%d: %v, %v", depth, d.Open, f.Open)
			}
		}
	}
}

func allStages() string {
	s := ""
	for _, x := range tower().Stages {
		s += x.Name + " "
	}
	return s
}

func TestMoveStones(t *testing.T) {
	stones := func(text string) api.Model {
		m := api.Model{Name: "m"}
		for _, name := range strings.Fields(text) {
			m.Stones = append(m.Stones, api.Stone{Name: name})
		}
		return m
	}
	for _, r := range []struct{ old, done, now, want string }{
		{"x y", "x", "x y", "x"}, {"x y", "x", "y x", "x"}, {"x y", "x y", "y", "y"}, {"x y", "x", "y", ""}, {"x y", "y", "z x y", "y"}, {"x y", "x y", "", ""}, {"x y", "", "x y z", ""}, {"x y", "x y", "y z x", "y x"}, {"", "", "x", ""},
	} {
		old, now := stones(r.old), stones(r.now)
		d := wantMove(t, old, now, at(old, "", r.done), 1, api.OK, r)
		if fmt.Sprint(d.Done) != fmt.Sprint(at(now, "", r.want).Done) {
			t.Errorf("%v: %v is reached", r, d.Done)
		}
	}
	// A stage and a milestone of one name are two things.
	both := api.Model{Name: "m", Stages: []api.Stage{{Name: "a", In: -1}}, Stones: []api.Stone{{Name: "x"}}}
	turned := api.Model{Name: "m", Stages: []api.Stage{{Name: "x", In: -1}}, Stones: []api.Stone{{Name: "a"}}}
	if d := wantMove(t, both, turned, at(both, "a", "x"), 1, api.OK); d.Open[0] || d.Done[0] {
		t.Errorf("Move is %+v", d)
	}
}

func TestMoveKeepsWhoActed(t *testing.T) {
	for n := range 4 {
		c := at(nest(), "a", "")
		c.Acted = []api.Acted{{User: "bob", Role: "clerk"}, {User: "", Role: "9"}, {User: "bob", Role: "clerk"}}[:n]
		now := api.Model{Name: "m", Apart: [][2]string{{"clerk", "boss"}}}
		if d := wantMove(t, nest(), now, c, 1, api.OK, n); fmt.Sprint(d.Acted) != fmt.Sprint(c.Acted) {
			t.Errorf("%v acted, not %v", d.Acted, c.Acted)
		}
	}
}

func TestMoveOfDrawnCases(t *testing.T) {
	r := newDrawer(4)
	kept := 0
	for range draws {
		old := r.frame(r.Intn(5), r.Intn(7), r.Intn(4))
		now := r.other(old)
		if e := model.Check(now); e != api.OK {
			t.Fatalf("%+v may not be: %d", now, e)
		}
		c := r.ofModel(old)
		d := wantMove(t, old, now, c, 1+r.Intn(9), api.OK, old, now, c)
		for _, is := range d.Open {
			if is {
				kept++
			}
		}
		back := wantMove(t, now, old, d, c.Version, api.OK, old, now, c)
		// There and back nothing opens and is reached that was not.
		for i, is := range back.Open {
			if is && !c.Open[i] {
				t.Fatalf("%+v is %+v there and back", c, back)
			}
		}
		for i, is := range back.Done {
			if is && !c.Done[i] {
				t.Fatalf("%+v is %+v there and back", c, back)
			}
		}
	}
	if kept < draws/2 {
		t.Errorf("only %d stages were open behind %d moves", kept, draws)
	}
}
