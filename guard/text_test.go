package guard

import (
	"math"
	"strings"
	"testing"

	"docket/api"
)

func wantText(t *testing.T, g api.Guard, want string, e api.Errno) {
	t.Helper()
	s, gotE := Text(g)
	if s != want || gotE != e {
		t.Errorf("Text of %.300s is %.300q, %d, not %.300q, %d", shown(g), s, gotE, want, e)
	}
	if s, gotE := modelText(g); s != want || gotE != e {
		t.Errorf("the model's Text of %.300s is %.300q, %d, not %.300q, %d", shown(g), s, gotE, want, e)
	}
}

// each has a guard of each kind; of those with kids, with kids that have none.
func each() map[uint8]api.Guard {
	all := map[uint8]api.Guard{
		api.GuardTrue: leaf(api.GuardTrue, ""), api.GuardFalse: leaf(api.GuardFalse, ""), api.GuardInt: whole(42), api.GuardText: leaf(api.GuardText, "it is"),
		api.GuardAttr: a, api.GuardOpen: leaf(api.GuardOpen, "s"), api.GuardDone: leaf(api.GuardDone, "m"), api.GuardNot: over(api.GuardNot, a),
	}
	for kind := api.GuardAnd; kind <= api.GuardMul; kind++ {
		all[kind] = over(kind, a, b)
	}
	return all
}

var eachText = []string{"", "true", "false", "42", "'it is'", "a", "open(s)", "done(m)", "not a", "a and b", "a or b", "a = b", "a < b", "a + b", "a - b", "a * b"}

func TestTextOfEachKind(t *testing.T) {
	signs := []string{"and", "or", "=", "<", "+", "-", "*"}
	for kind, g := range each() {
		text := eachText[kind]
		wantText(t, g, text, api.OK)
		in := text
		if len(g.Kids) > 0 {
			in = "(" + text + ")"
		}
		wantText(t, over(api.GuardNot, g), "not "+in, api.OK)
		wantText(t, over(api.GuardNot, over(api.GuardNot, g)), "not (not "+in+")", api.OK)
		for i, sign := range signs {
			kind := api.GuardAnd + uint8(i)
			wantText(t, over(kind, g, c), in+" "+sign+" c", api.OK)
			wantText(t, over(kind, c, g), "c "+sign+" "+in, api.OK)
			wantText(t, over(kind, g, g), in+" "+sign+" "+in, api.OK)
			wantText(t, over(kind, over(kind, g, c), g), "("+in+" "+sign+" c) "+sign+" "+in, api.OK)
		}
	}
}

func TestTextOfLeaves(t *testing.T) {
	for n, s := range map[int64]string{0: "0", 1: "1", 10: "10", math.MaxInt64 - 1: "9223372036854775806", math.MaxInt64: "9223372036854775807"} {
		wantText(t, whole(n), s, api.OK)
	}
	wantText(t, leaf(api.GuardText, ""), "''", api.OK)
	wantText(t, leaf(api.GuardText, ` !"&()*+~`), `' !"&()*+~'`, api.OK)
	long := strings.Repeat("n", 32)
	wantText(t, leaf(api.GuardAttr, long), long, api.OK)
	wantText(t, leaf(api.GuardOpen, long), "open("+long+")", api.OK)
	wantText(t, leaf(api.GuardDone, "a-b_c.d"), "done(a-b_c.d)", api.OK)
	wantText(t, leaf(api.GuardAttr, "true-"), "true-", api.OK)
}

// bad are guards that may not be, in each way.
func bad() []api.Guard {
	var l []api.Guard
	for _, kind := range []uint8{0, 16, 17, 255} {
		l = append(l, leaf(kind, ""), leaf(kind, "a"), over(kind, a), over(kind, a, b))
	}
	for kind, g := range each() {
		with := func(change func(g *api.Guard)) {
			x := deep(g)
			change(&x)
			l = append(l, x)
		}
		with(func(g *api.Guard) { g.Kids = append(g.Kids, c) })
		with(func(g *api.Guard) { g.Kids = append(g.Kids, c, d) })
		with(func(g *api.Guard) { g.Int = -1 })
		with(func(g *api.Guard) { g.Int = math.MinInt64 })
		if len(g.Kids) > 0 {
			with(func(g *api.Guard) { g.Kids = nil })
			with(func(g *api.Guard) { g.Kids = g.Kids[1:] })
			with(func(g *api.Guard) { g.Kids[0] = api.Guard{} })
			with(func(g *api.Guard) { g.Kids[len(g.Kids)-1].Int = 1 })
			with(func(g *api.Guard) { g.Kids[len(g.Kids)-1].Kids = []api.Guard{a} })
		}
		if kind != api.GuardInt {
			with(func(g *api.Guard) { g.Int = 1 })
		}
		switch kind {
		case api.GuardAttr, api.GuardOpen, api.GuardDone:
			for _, name := range []string{"", " ", "A", "aB", "1", "1a", "-a", "_a", ".a", "a b", " a", "a ", "a'", "a+", "a(", "é", "aé", "a\x00", "a\n", "and", "or", "not", "true", "false", "open", "done", strings.Repeat("n", 33)} {
				with(func(g *api.Guard) { g.Text = name })
			}
		case api.GuardText:
			for _, chars := range []string{"'", "it's", "a'", "\x1f", "a\x1f", "\x7f", "b\x7f", "\n", "é", "\xff", "\x00", "a\tb"} {
				with(func(g *api.Guard) { g.Text = chars })
			}
		default:
			with(func(g *api.Guard) { g.Text = "a" })
			with(func(g *api.Guard) { g.Text = "'" })
		}
	}
	return l
}

// nots is g with so many more about it.
func nots(n int, g api.Guard) api.Guard {
	for range n {
		g = over(api.GuardNot, g)
	}
	return g
}

// wantJudged asks the same error of all calls that judge a guard.
func wantJudged(t *testing.T, g api.Guard, e api.Errno) {
	t.Helper()
	if got := modelJudge(g); got != e {
		t.Errorf("the model judges %.300s by %d, not by %d", shown(g), got, e)
	}
	s, textE := Text(g)
	kind, kindE := Kind(g, api.Model{})
	attrs, stages, stones, namesE := Names(g)
	v, worthE := Worth(g, api.Model{}, api.Case{Open: []bool{true}})
	if textE != e || kindE != e || namesE != e || worthE != e {
		t.Errorf("%.300s is judged by %d, %d, %d, %d, not by %d", shown(g), textE, kindE, namesE, worthE, e)
	}
	if s != "" || kind != 0 || len(attrs)+len(stages)+len(stones) > 0 || v.Kind != 0 || v.Int != 0 || v.Bool || v.Text != "" {
		t.Errorf("%.300s: something is answered beside %d: %q, %d, %v, %v, %v, %v", shown(g), e, s, kind, attrs, stages, stones, v)
	}
}

func TestGuardsThatMayNotBe(t *testing.T) {
	for _, g := range bad() {
		wantJudged(t, g, api.ErrBad)
		wantJudged(t, over(api.GuardNot, g), api.ErrBad)
		wantJudged(t, over(api.GuardOr, g, a), api.ErrBad)
		wantJudged(t, over(api.GuardMul, a, over(api.GuardSub, whole(1), g)), api.ErrBad)
		// That it may not be goes ahead of its depth, wherever it stands.
		wantJudged(t, nots(31, g), api.ErrBad)
		wantJudged(t, nots(32, g), api.ErrBad)
		wantJudged(t, nots(100, g), api.ErrBad)
		wantJudged(t, over(api.GuardAnd, nots(40, a), g), api.ErrBad)
		wantJudged(t, over(api.GuardAnd, g, nots(40, a)), api.ErrBad)
	}
}

func TestGuardsThatAreTooDeep(t *testing.T) {
	for kind := api.GuardNot; kind <= api.GuardMul; kind++ {
		about := func(n int, second bool) api.Guard {
			g := a
			for range n {
				switch {
				case kind == api.GuardNot:
					g = over(kind, g)
				case second:
					g = over(kind, b, g)
				default:
					g = over(kind, g, b)
				}
			}
			return g
		}
		for _, second := range []bool{false, true} {
			g := about(31, second)
			want, e := modelText(g)
			if e != api.OK {
				t.Fatal(e)
			}
			wantText(t, g, want, api.OK)
			if attrs, _, _, e := Names(g); e != api.OK || attrs[0] != "a" {
				t.Errorf("Names of one of %d that is 32 deep: %v, %d", kind, attrs, e)
			}
			if _, e := Kind(g, api.Model{}); e != api.ErrNone {
				t.Errorf("Kind of one of %d that is 32 deep: %d", kind, e)
			}
			wantJudged(t, about(32, second), api.ErrDepth)
			wantJudged(t, about(33, second), api.ErrDepth)
			wantJudged(t, over(api.GuardOr, about(31, second), a), api.ErrDepth)
			wantJudged(t, over(api.GuardOr, a, about(31, second)), api.ErrDepth)
		}
	}
	wantJudged(t, nots(1<<16-2, a), api.ErrDepth)
	wantJudged(t, nots(1<<16-2, api.Guard{}), api.ErrBad)
}

// wide is a guard that is 12 deep, of about 4096 leaves.
func wide(leaf api.Guard) api.Guard {
	g := leaf
	for range 12 {
		g = over(api.GuardAnd, g, g)
	}
	return g
}

func TestTextLength(t *testing.T) {
	chars := func(n int) api.Guard { return leaf(api.GuardText, strings.Repeat("x", n)) }
	wantText(t, chars(16382), "'"+strings.Repeat("x", 16382)+"'", api.OK)
	wantText(t, chars(16383), "", api.ErrText)
	wantText(t, chars(16385), "", api.ErrText)
	wantText(t, chars(100000), "", api.ErrText)
	wantText(t, over(api.GuardNot, chars(16378)), "not '"+strings.Repeat("x", 16378)+"'", api.OK)
	wantText(t, over(api.GuardNot, chars(16379)), "", api.ErrText)
	wantText(t, over(api.GuardSame, chars(8000), chars(8377)), "'"+strings.Repeat("x", 8000)+"' = '"+strings.Repeat("x", 8377)+"'", api.OK)
	wantText(t, over(api.GuardSame, chars(8000), chars(8378)), "", api.ErrText)
	wantText(t, over(api.GuardSame, chars(16380), a), "", api.ErrText)
	wantText(t, over(api.GuardSame, a, chars(16378)), "a = '"+strings.Repeat("x", 16378)+"'", api.OK)
	wantText(t, over(api.GuardSame, a, chars(16379)), "", api.ErrText)
	wantText(t, wide(leaf(api.GuardTrue, "")), "", api.ErrText)
	wantText(t, over(api.GuardOr, wide(a), wide(b)), "", api.ErrText)
	// A bracket at the end counts as well.
	wantText(t, over(api.GuardNot, over(api.GuardNot, chars(16372))), "not (not '"+strings.Repeat("x", 16372)+"')", api.OK)
	wantText(t, over(api.GuardNot, over(api.GuardNot, chars(16373))), "", api.ErrText)
	// ErrBad and ErrDepth go ahead.
	wantText(t, over(api.GuardSame, chars(20000), api.Guard{}), "", api.ErrBad)
	wantText(t, nots(32, chars(20000)), "", api.ErrDepth)
	// Of the others, none minds how long it would be written.
	if kind, e := Kind(chars(20000), api.Model{}); kind != api.IsText || e != api.OK {
		t.Error(kind, e)
	}
	if v, e := Worth(chars(20000), api.Model{}, api.Case{}); v.Kind != api.Text || v.Text != strings.Repeat("x", 20000) || e != api.OK {
		t.Error(v.Kind, len(v.Text), e)
	}
}
