package engine

import (
	"fmt"
	"math"
	"math/rand"
	"slices"
	"strings"

	"docket/api"
	"docket/json"
	"docket/model"
)

const draws = 6000

// drawer draws models, cases and events, always the same ones of one seed.
type drawer struct{ *rand.Rand }

func newDrawer(seed int64) drawer { return drawer{rand.New(rand.NewSource(seed))} }

func (r drawer) one(l ...string) string { return l[r.Intn(len(l))] }

// names are n different ones.
func (r drawer) names(n int) []string {
	pool := []string{"a", "b", "c", "d", "e-1", "f_", "g.", "andy", "s" + strings.Repeat("9", 31)}
	for i := range max(0, 2*n-len(pool)) {
		pool = append(pool, fmt.Sprint("n", i))
	}
	r.Shuffle(len(pool), func(i, j int) { pool[i], pool[j] = pool[j], pool[i] })
	return pool[:n]
}

// frame is a model without sentries.
func (r drawer) frame(attrs, stages, stones int) api.Model {
	m := api.Model{Name: "m"}
	for _, name := range r.names(attrs) {
		m.Attrs = append(m.Attrs, api.Attr{Name: name, Kind: uint8(1 + r.Intn(3))})
	}
	events := r.Intn(3)
	named := r.names(events + stages)
	m.Events = named[:events:events]
	for i, name := range named[events:] {
		s := api.Stage{Name: name, In: r.Intn(i+1) - 1}
		if r.Intn(4) == 0 {
			s.In = -1
		}
		if r.Intn(3) == 0 {
			s.Role = "clerk"
		}
		m.Stages = append(m.Stages, s)
	}
	for _, name := range r.names(stones) {
		m.Stones = append(m.Stones, api.Stone{Name: name})
	}
	return m
}

// guard is the text of one that is a truth in m.
func (r drawer) guard(m api.Model) string {
	l := []string{"true", "1 < 2", "false"}
	for _, a := range m.Attrs {
		n := r.one("0", "1", "7", "9223372036854775807")
		l = append(l, map[uint8]string{api.IsBool: a.Name, api.IsInt: r.one(a.Name+" < "+n, a.Name+" + "+n+" < 9", a.Name+" * "+a.Name+" = "+n, "0 - 2 - "+a.Name+" < "+n), api.IsText: a.Name + r.one(" = 'x'", " = ''", " = "+a.Name)}[a.Kind])
	}
	for range 2 {
		if len(m.Stages) > 0 {
			l = append(l, "open("+m.Stages[r.Intn(len(m.Stages))].Name+")")
		}
		if len(m.Stones) > 0 {
			l = append(l, "done("+m.Stones[r.Intn(len(m.Stones))].Name+")")
		}
	}
	s := r.one(l...)
	for range r.Intn(3) {
		s = r.one("not ("+s+")", "("+s+") and "+r.one(l...), r.one(l...)+" or ("+s+")")
	}
	return s
}

// sentry is one that may be in m.
func (r drawer) sentry(m api.Model) api.Sentry {
	s := api.Sentry{On: uint8(r.Intn(6))}
	if r.Intn(3) == 0 {
		s.If = r.guard(m)
	}
	var among []string
	switch s.On {
	case api.OnEvent:
		among = secondEvents(m)[1:]
	case api.OnOpened, api.OnClosed:
		for _, x := range m.Stages {
			among = append(among, x.Name)
		}
	case api.OnDone, api.OnUndone:
		for _, x := range m.Stones {
			among = append(among, x.Name)
		}
	}
	if len(among) == 0 {
		s.On = api.OnAny
		return s
	}
	s.Name = r.one(among...)
	return s
}

// lists are those of the sentries of m, as what they can be turned by.
func lists(m *api.Model) []*[]api.Sentry {
	var l []*[]api.Sentry
	for i := range m.Stages {
		l = append(l, &m.Stages[i].Opens, &m.Stages[i].Closes)
	}
	for i := range m.Stones {
		l = append(l, &m.Stones[i].Done, &m.Stones[i].Undo)
	}
	return l
}

// model is one that may be, of up to n sentries: one that would make it loop is taken back.
func (r drawer) model(attrs, stages, stones, n int) api.Model {
	m := r.frame(attrs, stages, stones)
	l := lists(&m)
	for range n {
		if len(l) == 0 {
			break
		}
		to := l[r.Intn(len(l))]
		*to = append(*to, r.sentry(m))
		if model.Check(m) != api.OK {
			*to = (*to)[:len(*to)-1]
		}
	}
	return m
}

func (r drawer) small() api.Model { return r.model(r.Intn(4), r.Intn(6), r.Intn(4), r.Intn(14)) }

func (r drawer) value(kind uint8) api.Json {
	switch kind {
	case api.IsBool:
		return json.Yes(r.Intn(2) == 0)
	case api.IsInt:
		return json.Num([]int64{0, 1, -1, 7, 8, math.MinInt64, math.MaxInt64, math.MaxInt64 - 7, math.MaxInt32 * 3}[r.Intn(9)])
	}
	return json.Str(r.one("", "x", "x", "é\x00", "x "))
}

// ofModel is a case that may be.
func (r drawer) ofModel(m api.Model) api.Case {
	c := api.Case{Id: r.Intn(1 << 31), Model: m.Name, Version: r.Intn(1 << 31)}
	for _, a := range m.Attrs {
		c.Values = append(c.Values, r.value(a.Kind))
	}
	often := r.Intn(4)
	for _, s := range m.Stages {
		c.Open = append(c.Open, r.Intn(3) < often && (s.In < 0 || c.Open[s.In]))
	}
	for range m.Stones {
		c.Done = append(c.Done, r.Intn(2) == 0)
	}
	for range r.Intn(3) {
		c.Acted = append(c.Acted, api.Acted{User: r.one("", "ann", "B ob"), Role: r.one("clerk", "9", "and")})
	}
	return c
}

// event is one that may be.
func (r drawer) event(m api.Model) api.Event {
	x := api.Event{Name: r.one(secondEvents(m)...)}
	for _, i := range r.Perm(len(m.Attrs)) {
		if r.Intn(3) == 0 {
			x.Names, x.Values = append(x.Names, m.Attrs[i].Name), append(x.Values, r.value(m.Attrs[i].Kind))
		}
	}
	return x
}

// deep is a copy that shares no list with m.
func deep(m api.Model) api.Model {
	m.Attrs, m.Events, m.Stages, m.Stones, m.Apart = slices.Clone(m.Attrs), slices.Clone(m.Events), slices.Clone(m.Stages), slices.Clone(m.Stones), slices.Clone(m.Apart)
	for _, l := range lists(&m) {
		*l = slices.Clone(*l)
	}
	return m
}

// turnedCase is c with something other than it was: it may be then, or not.
func (r drawer) turnedCase(c api.Case) api.Case {
	c.Values, c.Open, c.Done, c.Acted = slices.Clone(c.Values), slices.Clone(c.Open), slices.Clone(c.Done), slices.Clone(c.Acted)
	number := []int{-1, 0, 1<<31 - 1, 1 << 31, 1 << 40}[r.Intn(5)]
	some := func(n int) int { return r.Intn(max(n, 1)) }
	switch at := r.Intn(10); {
	case at == 0:
		c.Id = number
	case at == 1:
		c.Version = number
	case at == 2:
		c.Model = r.one("m", "n", "")
	case at == 3 && len(c.Values) > 0:
		c.Values[some(len(c.Values))] = r.turnedValue(uint8(1 + r.Intn(3)))
	case at == 4 && len(c.Values) > 0:
		c.Values = c.Values[1:]
	case at == 5:
		c.Done = append(c.Done, true)
	case at == 6:
		c.Open = append(c.Open, false)
	case at == 7:
		c.Acted = append(c.Acted, api.Acted{User: strings.Repeat("u", 30+r.Intn(4)), Role: r.one("clerk", "Clerk", "", strings.Repeat("r", 32), strings.Repeat("r", 33))})
	default:
		if len(c.Open) > 0 {
			i := some(len(c.Open))
			c.Open[i] = !c.Open[i]
		}
	}
	return c
}

func (r drawer) turnedValue(kind uint8) api.Json {
	v := r.value(kind)
	switch r.Intn(8) {
	case 0:
		v.Kind = uint8(r.Intn(8))
	case 1:
		v.Bool = !v.Bool
	case 2:
		v.Int++
	case 3:
		v.Text += r.one("x", "\xff")
	case 4:
		v.Items = []api.Json{{}}
	}
	return v
}

// turnedEvent is x with something other than it was: it may be then, or not.
func (r drawer) turnedEvent(m api.Model, x api.Event) api.Event {
	x.Names, x.Values = slices.Clone(x.Names), slices.Clone(x.Values)
	among := []string{"", "zz", "a", "b"}
	for _, s := range m.Stages {
		among = append(among, s.Name)
	}
	for _, a := range m.Attrs {
		among = append(among, a.Name)
	}
	some := func(n int) int { return r.Intn(max(n, 1)) }
	switch at := r.Intn(5); {
	case at == 0:
		x.Name = r.one(among...)
	case at == 1 && len(x.Values) > 0:
		x.Values[some(len(x.Values))] = r.turnedValue(uint8(1 + r.Intn(3)))
	case at == 2 && len(x.Names) > 0:
		x.Names[some(len(x.Names))] = r.one(among...)
	case at == 3:
		x.Names = append(x.Names, r.one(among...))
	default:
		x.Names, x.Values = append(x.Names, r.one(among...)), append(x.Values, r.value(uint8(1+r.Intn(3))))
	}
	return x
}

// other is a model that has much of what m has: some things more, fewer, of another Kind, in another order, within another stage.
func (r drawer) other(m api.Model) api.Model {
	now := api.Model{Name: m.Name, Events: m.Events}
	for _, i := range r.Perm(len(m.Attrs)) {
		if a := m.Attrs[i]; r.Intn(4) > 0 {
			if r.Intn(4) == 0 {
				a.Kind = uint8(1 + r.Intn(3))
			}
			now.Attrs = append(now.Attrs, a)
		}
	}
	order := r.Perm(len(m.Stages))
	if r.Intn(2) == 0 {
		slices.Sort(order)
	}
	for _, i := range order {
		if r.Intn(5) > 0 {
			now.Stages = append(now.Stages, api.Stage{Name: m.Stages[i].Name, In: r.inside(now, m, i)})
		}
	}
	if r.Intn(3) == 0 {
		now.Stages = append(now.Stages, api.Stage{Name: "new", In: r.Intn(len(now.Stages)+1) - 1})
	}
	for _, i := range r.Perm(len(m.Stones)) {
		if r.Intn(4) > 0 {
			now.Stones = append(now.Stones, api.Stone{Name: m.Stones[i].Name})
		}
	}
	if r.Intn(3) == 0 {
		now.Stones = append(now.Stones, api.Stone{Name: "new"})
		now.Attrs = append(now.Attrs, api.Attr{Name: "new", Kind: uint8(1 + r.Intn(3))})
	}
	return now
}

// inside is where the stage i of m stands in now: where it did, mostly.
func (r drawer) inside(now, m api.Model, i int) int {
	if r.Intn(3) == 0 {
		return r.Intn(len(now.Stages)+1) - 1
	}
	return slices.IndexFunc(now.Stages, func(s api.Stage) bool { return m.Stages[i].In >= 0 && s.Name == m.Stages[m.Stages[i].In].Name })
}
