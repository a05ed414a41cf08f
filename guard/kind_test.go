package guard

import (
	"fmt"
	"strings"
	"testing"

	"docket/api"
)

// some has an attribute of each Kind, of none, two of one name; stages and milestones, some named as attributes are.
func some() api.Model {
	return api.Model{
		Name: "some",
		Attrs: []api.Attr{
			{Name: "t", Kind: api.IsBool}, {Name: "n", Kind: api.IsInt}, {Name: "x", Kind: api.IsText}, {Name: "bad", Kind: 0}, {Name: "worse", Kind: 4}, {Name: "worst", Kind: 255},
			{Name: "two", Kind: api.IsInt}, {Name: "two", Kind: api.IsText}, {Name: "s", Kind: api.IsInt}, {Name: "half", Kind: api.IsBool}, {Name: "half", Kind: 9}, {Name: "other", Kind: 9}, {Name: "other", Kind: api.IsBool},
		},
		Stages: []api.Stage{{Name: "s"}, {Name: "m", In: 0}, {Name: "both"}, {Name: "both"}},
		Stones: []api.Stone{{Name: "r"}, {Name: "both"}},
		Events: []string{"e"},
	}
}

// read is the guard of a text.
func read(t *testing.T, s string) api.Guard {
	t.Helper()
	g, _, e := Read(s)
	if e != api.OK {
		t.Fatalf("%q is no guard: %d", s, e)
	}
	return g
}

func wantKind(t *testing.T, g api.Guard, m api.Model, want uint8, e api.Errno) {
	t.Helper()
	kind, gotE := Kind(g, m)
	if kind != want || gotE != e {
		t.Errorf("%.300s is of the kind %d, %d, not %d, %d", shown(g), kind, gotE, want, e)
	}
	if kind, gotE := modelKind(g, m); kind != want || gotE != e {
		t.Errorf("%.300s is of the model's kind %d, %d, not %d, %d", shown(g), kind, gotE, want, e)
	}
}

func TestKindOfLeaves(t *testing.T) {
	m := some()
	for s, kind := range map[string]uint8{
		"true": api.IsBool, "false": api.IsBool, "0": api.IsInt, "9223372036854775807": api.IsInt, "''": api.IsText, "'t'": api.IsText,
		"t": api.IsBool, "n": api.IsInt, "x": api.IsText, "two": api.IsInt, "half": api.IsBool, "s": api.IsInt,
		"open(s)": api.IsBool, "open(m)": api.IsBool, "open(both)": api.IsBool, "done(r)": api.IsBool, "done(both)": api.IsBool,
	} {
		wantKind(t, read(t, s), m, kind, api.OK)
	}
	for _, s := range []string{"none", "m", "r", "both", "e", "some", "open(t)", "open(r)", "open(none)", "open(e)", "done(t)", "done(s)", "done(m)", "done(none)", "t1", "open(bot)"} {
		wantKind(t, read(t, s), m, 0, api.ErrNone)
	}
	for _, s := range []string{"bad", "worse", "worst", "other"} {
		wantKind(t, read(t, s), m, 0, api.ErrKind)
	}
	for _, s := range []string{"t", "open(s)", "done(r)"} {
		wantKind(t, read(t, s), api.Model{}, 0, api.ErrNone)
	}
	wantKind(t, read(t, "1"), api.Model{}, api.IsInt, api.OK)
}

// Each kind of guard beside each kind of each of its kids.
func TestKindOfKids(t *testing.T) {
	m := some()
	of := map[uint8][]string{
		api.IsBool: {"true", "t", "open(s)", "done(r)", "(not t)", "(t and t)", "(t or t)", "(n = n)", "(n < n)"},
		api.IsInt:  {"7", "n", "two", "(n + n)", "(n - n)", "(n * n)"},
		api.IsText: {"'x'", "x"},
	}
	for first, firsts := range of {
		for _, one := range firsts {
			want, e := api.IsBool, api.OK
			if first != api.IsBool {
				want, e = 0, api.ErrKind
			}
			wantKind(t, read(t, "not "+one), m, want, e)
			for second, seconds := range of {
				for _, other := range seconds {
					for sign, fits := range map[string]bool{
						"and": first == api.IsBool && second == api.IsBool, "or": first == api.IsBool && second == api.IsBool, "=": first == second,
						"<": first == api.IsInt && second == api.IsInt, "+": first == api.IsInt && second == api.IsInt, "-": first == api.IsInt && second == api.IsInt, "*": first == api.IsInt && second == api.IsInt,
					} {
						want, e := api.IsBool, api.OK
						if strings.Contains("+-*", sign) {
							want = api.IsInt
						}
						if !fits {
							want, e = 0, api.ErrKind
						}
						wantKind(t, read(t, one+" "+sign+" "+other), m, want, e)
					}
				}
			}
		}
	}
}

// The kids are judged from the left, each ahead of what it is a kid of.
func TestKindInItsOrder(t *testing.T) {
	m := some()
	for s, e := range map[string]api.Errno{
		"not n": api.ErrKind, "not none": api.ErrNone, "not bad": api.ErrKind, "not not none": api.ErrNone,
		"none + t": api.ErrNone, "t + none": api.ErrNone, "none + bad": api.ErrNone, "bad + none": api.ErrKind, "none < 'x'": api.ErrNone, "n and none": api.ErrNone, "none or n": api.ErrNone,
		"(t + t) = none": api.ErrKind, "none = (t + t)": api.ErrNone, "(n + none) = (t + t)": api.ErrNone, "(t + n) = (n + none)": api.ErrKind, "n = open(none)": api.ErrNone, "not n and none": api.ErrKind,
		"none and not n": api.ErrNone, "t and not n": api.ErrKind, "n and not none": api.ErrNone, "(t and n) or done(none)": api.ErrKind, "done(none) or (t and n)": api.ErrNone, "bad = bad": api.ErrKind, "worst = worst": api.ErrKind, "bad = worse": api.ErrKind,
		"x = n": api.ErrKind, "t = n": api.ErrKind, "t = x": api.ErrKind, "t < t": api.ErrKind, "x < x": api.ErrKind, "1 = 'a'": api.ErrKind, "true = 1": api.ErrKind, "half and other": api.ErrKind, "two = 'x'": api.ErrKind,
		"true or none": api.ErrNone, "false and n": api.ErrKind,
	} {
		wantKind(t, read(t, s), m, 0, e)
	}
}

func TestKindOfAllSmallGuards(t *testing.T) {
	leaves := []api.Guard{leaf(api.GuardTrue, ""), whole(1), leaf(api.GuardText, ""), leaf(api.GuardAttr, "t"), leaf(api.GuardAttr, "none"), leaf(api.GuardAttr, "bad"), leaf(api.GuardOpen, "none"), leaf(api.GuardDone, "r"), {}}
	m := some()
	level := leaves
	for range 2 {
		next := leaves
		for i, one := range level {
			next = append(next, over(api.GuardNot, one))
			for j, other := range level {
				for kind := api.GuardAnd; kind <= api.GuardMul; kind++ {
					if len(level) == len(leaves) || (i+j+int(kind))%41 == 0 {
						next = append(next, over(kind, one, other))
					}
				}
			}
		}
		level = next
	}
	told := map[string]int{}
	for _, g := range level {
		kind, e := Kind(g, m)
		if want, wantE := modelKind(g, m); kind != want || e != wantE {
			t.Fatalf("%s is of the kind %d, %d, not %d, %d", shown(g), kind, e, want, wantE)
		}
		told[fmt.Sprint(kind, e == api.OK)]++
	}
	if len(told) != 4 {
		t.Error(told)
	}
}

func TestKindOfDrawnGuards(t *testing.T) {
	r := newDrawer(3)
	told := map[api.Errno]int{}
	for range draws {
		m := r.model()
		g := r.fit(uint8(1+r.Intn(3)), m, 5)
		for range r.Intn(3) {
			g = r.turned(g)
		}
		if len(m.Attrs) > 0 && r.Intn(8) == 0 {
			m.Attrs[r.Intn(len(m.Attrs))].Kind = uint8(r.Intn(6))
		}
		kind, e := Kind(g, m)
		if want, wantE := modelKind(g, m); kind != want || e != wantE {
			t.Fatalf("%s in %v is of the kind %d, %d, not %d, %d", shown(g), m, kind, e, want, wantE)
		}
		told[e]++
	}
	for _, e := range []api.Errno{api.OK, api.ErrBad, api.ErrDepth, api.ErrNone, api.ErrKind} {
		if told[e] < 20 {
			t.Errorf("%d was told %d times alone", e, told[e])
		}
	}
}

func wantNames(t *testing.T, s, attrs, stages, stones string) {
	t.Helper()
	gotA, gotS, gotM, e := Names(read(t, s))
	if strings.Join(gotA, " ") != attrs || strings.Join(gotS, " ") != stages || strings.Join(gotM, " ") != stones || e != api.OK {
		t.Errorf("Names of %q are %v, %v, %v, %d", s, gotA, gotS, gotM, e)
	}
}

func TestNames(t *testing.T) {
	for _, s := range []string{"true", "false", "7", "'a'", "1 + 2 = 3", "not true and ('b' = 'c')"} {
		wantNames(t, s, "", "", "")
	}
	wantNames(t, "a", "a", "", "")
	wantNames(t, "open(a)", "", "a", "")
	wantNames(t, "done(a)", "", "", "a")
	wantNames(t, "not open(b)", "", "b", "")
	wantNames(t, "a = open(a) and done(a) = a", "a", "a", "a")
	wantNames(t, "c = b and a < c or not b and d", "a b c d", "", "")
	wantNames(t, "open(c) and open(b) or open(a) and open(c)", "", "a b c", "")
	wantNames(t, "done(c) and (done(b) or (done(a) and done(c)))", "", "", "a b c")
	wantNames(t, "z and open(y) and done(x) and c and open(b) and done(a)", "c z", "b y", "a x")
	// Rising by their bytes: minus, point, digits, low line, letters.
	wantNames(t, "aa + a1 + a_ + a. + a- + a + b + ab", "a a- a. a1 a_ aa ab b", "", "")
}

// balanced puts kids together two by two, so that many of them are not deep.
func balanced(kind uint8, kids []api.Guard) api.Guard {
	if len(kids) == 1 {
		return kids[0]
	}
	half := len(kids) / 2
	return over(kind, balanced(kind, kids[:half]), balanced(kind, kids[half:]))
}

func TestNamesOfMany(t *testing.T) {
	var kids []api.Guard
	var want []string
	for i := range 1000 {
		want = append(want, fmt.Sprintf("n%03d", i))
		for _, at := range []int{i, 999 - i, i * 7 % 1000} {
			name := fmt.Sprintf("n%03d", at)
			kids = append(kids, leaf(api.GuardAttr, name), leaf(api.GuardOpen, name), leaf(api.GuardDone, name))
		}
	}
	attrs, stages, stones, e := Names(balanced(api.GuardSame, kids))
	for _, l := range [][]string{attrs, stages, stones} {
		if fmt.Sprint(l) != fmt.Sprint(want) || e != api.OK {
			t.Errorf("%d, %v", e, l)
		}
	}
}

func TestNamesOfDrawnGuards(t *testing.T) {
	r := newDrawer(4)
	for range draws {
		g := r.guard(6)
		if r.Intn(3) == 0 {
			g = r.turned(g)
		}
		attrs, stages, stones, e := Names(g)
		a, s, m, wantE := modelNamed(g)
		if strings.Join(attrs, " ") != strings.Join(a, " ") || strings.Join(stages, " ") != strings.Join(s, " ") || strings.Join(stones, " ") != strings.Join(m, " ") || e != wantE {
			t.Fatalf("Names of %s are %v, %v, %v, %d, not %v, %v, %v, %d", shown(g), attrs, stages, stones, e, a, s, m, wantE)
		}
	}
}
