package guard

import (
	"math"
	"math/rand"
	"strings"

	"docket/api"
)

const draws = 20000

// drawer draws guards, models, cases and texts, always the same ones of one seed.
type drawer struct{ *rand.Rand }

func newDrawer(seed int64) drawer { return drawer{rand.New(rand.NewSource(seed))} }

func (r drawer) one(l ...string) string { return l[r.Intn(len(l))] }

func (r drawer) name() string {
	return r.one("a", "b", "c", "d", "notx", "or1", "true-", "a-b", "x_1.", "n"+strings.Repeat("9", 31))
}

func (r drawer) integer() int64 {
	switch r.Intn(4) {
	case 0:
		return []int64{0, 1, 2, math.MaxInt64, math.MaxInt64 - 1, 3037000499, 3037000500, 1 << 62, 1 << 32, 1 << 31}[r.Intn(10)]
	case 1:
		return r.Int63()
	}
	return int64(r.Intn(12))
}

func (r drawer) chars() string {
	return r.one("", " ", "~", "a", "a b", "and", "(", "x y", `"`, "open(a)", "1")
}

func leaf(kind uint8, text string) api.Guard { return api.Guard{Kind: kind, Text: text} }

func whole(n int64) api.Guard { return api.Guard{Kind: api.GuardInt, Int: n} }

func over(kind uint8, kids ...api.Guard) api.Guard { return api.Guard{Kind: kind, Kids: kids} }

// guard is one that may be, of any kind, or of none.
func (r drawer) guard(depth int) api.Guard {
	kind := uint8(1 + r.Intn(15))
	if depth <= 1 {
		kind = uint8(1 + r.Intn(7))
	}
	switch {
	case kind == api.GuardInt:
		return whole(r.integer())
	case kind == api.GuardText:
		return leaf(kind, r.chars())
	case kind < api.GuardAttr:
		return leaf(kind, "")
	case kind < api.GuardNot:
		return leaf(kind, r.name())
	case kind == api.GuardNot:
		return over(kind, r.guard(depth-1))
	}
	return over(kind, r.guard(depth-1), r.guard(depth-1))
}

// fit is a guard that has that kind in m, as long as m has some of all that it can ask for.
func (r drawer) fit(kind uint8, m api.Model, depth int) api.Guard {
	if depth <= 1 || r.Intn(6) == 0 {
		return r.fitLeaf(kind, m)
	}
	of := func(kind uint8) api.Guard { return r.fit(kind, m, depth-1) }
	switch {
	case kind == api.IsText:
		return r.fitLeaf(kind, m)
	case kind == api.IsInt:
		return over(api.GuardAdd+uint8(r.Intn(3)), of(kind), of(kind))
	}
	switch kid := uint8(1 + r.Intn(3)); r.Intn(6) {
	case 0:
		return over(api.GuardNot, of(kind))
	case 1:
		return over(api.GuardSame, of(kid), of(kid))
	case 2:
		return over(api.GuardLess, of(api.IsInt), of(api.IsInt))
	}
	return over(api.GuardAnd+uint8(r.Intn(2)), of(kind), of(kind))
}

func (r drawer) fitLeaf(kind uint8, m api.Model) api.Guard {
	if r.Intn(2) == 0 && len(m.Attrs) > 0 {
		at := r.Intn(len(m.Attrs))
		for i := range m.Attrs {
			if a := m.Attrs[(at+i)%len(m.Attrs)]; a.Kind == kind {
				return leaf(api.GuardAttr, a.Name)
			}
		}
	}
	switch {
	case kind == api.IsInt:
		return whole(r.integer())
	case kind == api.IsText:
		return leaf(api.GuardText, r.chars())
	case r.Intn(3) == 0 && len(m.Stages) > 0:
		return leaf(api.GuardOpen, m.Stages[r.Intn(len(m.Stages))].Name)
	case r.Intn(3) == 0 && len(m.Stones) > 0:
		return leaf(api.GuardDone, m.Stones[r.Intn(len(m.Stones))].Name)
	}
	return leaf(api.GuardTrue+uint8(r.Intn(2)), "")
}

// parts are all guards within g, and g, as what they can be turned by.
func parts(g *api.Guard) []*api.Guard {
	l := []*api.Guard{g}
	for i := range g.Kids {
		l = append(l, parts(&g.Kids[i])...)
	}
	return l
}

// turned is g with some field of some guard within it other than it was: it may be then, or not.
func (r drawer) turned(g api.Guard) api.Guard {
	g = deep(g)
	l := parts(&g)
	x := l[r.Intn(len(l))]
	switch r.Intn(7) {
	case 0:
		x.Kind = uint8(r.Intn(18))
	case 1:
		x.Int = []int64{0, 1, -1, math.MinInt64, math.MaxInt64}[r.Intn(5)]
	case 2:
		x.Text = r.one("", "a", "and", "done", "A", "1", "-a", "a b", "'", "it's", "\x1f", "\x7f", "é", "a\n", strings.Repeat("n", 32), strings.Repeat("n", 33))
	case 3:
		x.Kids = append(x.Kids, r.guard(2))
	case 4:
		x.Kids = x.Kids[:len(x.Kids)-min(1, len(x.Kids))]
	case 5:
		*x = r.guard(3)
	case 6:
		for range r.Intn(35) {
			*x = over(api.GuardNot, *x)
		}
	}
	return g
}

// deep is a copy that shares no list with g.
func deep(g api.Guard) api.Guard {
	kids := g.Kids
	g.Kids = nil
	for _, x := range kids {
		g.Kids = append(g.Kids, deep(x))
	}
	return g
}

// model has attributes of all kinds, some of one name, stages and milestones.
func (r drawer) model() api.Model {
	var m api.Model
	for range r.Intn(8) {
		m.Attrs = append(m.Attrs, api.Attr{Name: r.name(), Kind: uint8(1 + r.Intn(3))})
	}
	for range r.Intn(4) {
		m.Stages = append(m.Stages, api.Stage{Name: r.name(), In: -1})
	}
	for range r.Intn(4) {
		m.Stones = append(m.Stones, api.Stone{Name: r.name()})
	}
	return m
}

// of is a case of m.
func (r drawer) of(m api.Model) api.Case {
	c := api.Case{Id: 7, Model: m.Name, Version: 1}
	for _, a := range m.Attrs {
		v := api.Json{Kind: a.Kind, Bool: a.Kind == 1 && r.Intn(2) == 0}
		if a.Kind == 2 {
			v.Int = r.integer() * int64(r.Intn(3)-1)
		}
		if a.Kind == 3 {
			v.Kind, v.Text = api.Text, r.one(r.chars(), "é'\n")
		}
		c.Values = append(c.Values, v)
	}
	for range m.Stages {
		c.Open = append(c.Open, r.Intn(2) == 0)
	}
	for range m.Stones {
		c.Done = append(c.Done, r.Intn(2) == 0)
	}
	return c
}

// row is a guard as tokens, with brackets where they must stand, and some where they may.
func (r drawer) row(g api.Guard, least int) []string {
	var l []string
	level := 6
	kid := func(i, least int) { l = append(l, r.row(g.Kids[i], least)...) }
	two := func(at int, sign string, left, right int) {
		level = at
		kid(0, left)
		l = append(l, sign)
		kid(1, right)
	}
	switch g.Kind {
	case api.GuardOpen, api.GuardDone:
		l = []string{[]string{"open", "done"}[g.Kind-api.GuardOpen], "(", g.Text, ")"}
	case api.GuardNot:
		level = 2
		l = append(l, "not")
		kid(0, 2)
	case api.GuardOr:
		two(0, "or", 0, 1)
	case api.GuardAnd:
		two(1, "and", 1, 2)
	case api.GuardSame:
		two(3, "=", 4, 4)
	case api.GuardLess:
		two(3, "<", 4, 4)
	case api.GuardAdd:
		two(4, "+", 4, 5)
	case api.GuardSub:
		two(4, "-", 4, 5)
	case api.GuardMul:
		two(5, "*", 5, 6)
	default:
		l = []string{modelWritten(g)}
	}
	for level < least || r.Intn(8) == 0 {
		l = append(append([]string{"("}, l...), ")")
		level = 6
	}
	return l
}

// joined has blanks between tokens where they must be, and some where they may.
func (r drawer) joined(l []string) string {
	s := strings.Repeat(" ", r.Intn(4)/3)
	for i, t := range l {
		if i > 0 && goesOn(l[i-1], t) || r.Intn(3) == 0 {
			s += strings.Repeat(" ", 1+r.Intn(2))
		}
		s += t
	}
	return s + strings.Repeat(" ", r.Intn(4)/3)
}

// goesOn tells whether a word or a number would go on with what stands behind it.
func goesOn(s, t string) bool {
	const digits = "0123456789"
	if strings.Contains(digits, s[:1]) {
		return strings.Contains(digits, t[:1])
	}
	return s[0] >= 'a' && s[0] <= 'z' && strings.Contains("abcdefghijklmnopqrstuvwxyz-_."+digits, t[:1])
}

// written is a guard that may be, in one of the ways in which it may be written.
func (r drawer) written(g api.Guard) string { return r.joined(r.row(g, 0)) }

// text is a written guard, most often with something wrong somewhere.
func (r drawer) text() string {
	l := r.row(r.guard(5), 0)
	for range r.Intn(3) {
		at := r.Intn(len(l))
		switch r.Intn(4) {
		case 0:
			l = append(l[:at:at], append([]string{r.one("(", ")", "=", "<", "+", "-", "*", "not", "and", "or", "a", "0", "01", "'x'", "open", "true", "#", "'", "A", "9223372036854775808")}, l[at:]...)...)
		case 1:
			if len(l) > 1 {
				l = append(l[:at:at], l[at+1:]...)
			}
		case 2:
			l[at] = r.one("a", "=", "*", "(", ")", "and", "done", "not")
		case 3:
			l = l[:at+1]
		}
	}
	s := r.joined(l)
	if r.Intn(4) == 0 {
		at := r.Intn(len(s) + 1)
		s = s[:at] + string([]byte{byte(r.Intn(256))}) + s[at:]
	}
	return s
}
