package model

import (
	"fmt"
	"math/rand"
	"strings"

	"docket/api"
)

const draws = 6000

// drawer draws models and values, always the same ones of one seed.
type drawer struct{ *rand.Rand }

func newDrawer(seed int64) drawer { return drawer{rand.New(rand.NewSource(seed))} }

func (r drawer) one(l ...string) string { return l[r.Intn(len(l))] }

// names are n different ones.
func (r drawer) names(n int) []string {
	pool := []string{"a", "b", "c", "d", "e-1", "f_", "g.", "andy", "not-", "open1", "done.", "s" + strings.Repeat("9", 31)}
	for i := range 32 {
		pool = append(pool, fmt.Sprint("n", i))
	}
	r.Shuffle(len(pool), func(i, j int) { pool[i], pool[j] = pool[j], pool[i] })
	return pool[:n]
}

// frame is a model without sentries.
func (r drawer) frame(stages, stones int) api.Model {
	m := api.Model{Name: r.names(1)[0]}
	for _, name := range r.names(r.Intn(4)) {
		m.Attrs = append(m.Attrs, api.Attr{Name: name, Kind: uint8(1 + r.Intn(3))})
	}
	events := r.Intn(4)
	named := r.names(events + stages)
	m.Events = named[:events:events]
	for i, name := range named[events:] {
		s := api.Stage{Name: name, In: r.Intn(i+1) - 1}
		if r.Intn(3) == 0 {
			s.In = -1
		}
		if r.Intn(3) == 0 {
			s.Role = r.names(1)[0]
		}
		if events > 0 && r.Intn(3) == 0 {
			s.After, s.Event = []int{1, 5, 1 << 40}[r.Intn(3)], m.Events[r.Intn(events)]
		}
		m.Stages = append(m.Stages, s)
	}
	for _, name := range r.names(stones) {
		m.Stones = append(m.Stones, api.Stone{Name: name})
	}
	for range r.Intn(3) {
		m.Apart = append(m.Apart, [2]string(r.names(2)))
	}
	return m
}

// guard is the text of one that is a truth in m.
func (r drawer) guard(m api.Model) string {
	l := []string{"true", "1 < 2", "'\"' = '\\'", "false"}
	for _, a := range m.Attrs {
		l = append(l, a.Name+[]string{"", "", " < 7", " = 'x y'"}[a.Kind])
	}
	for range 2 {
		if len(m.Stages) > 0 {
			l = append(l, "open("+m.Stages[r.Intn(len(m.Stages))].Name+")")
		}
		if len(m.Stones) > 0 {
			l = append(l, "done("+m.Stones[r.Intn(len(m.Stones))].Name+")")
		}
	}
	s := r.one(l...)
	for range r.Intn(3) {
		s = r.one("not "+s, s+" and "+r.one(l...), r.one(l...)+" or "+s, " ( "+s+" ) ")
	}
	return s
}

// sentry is one that may be in m.
func (r drawer) sentry(m api.Model) api.Sentry {
	s := api.Sentry{On: uint8(r.Intn(6))}
	if r.Intn(2) == 0 {
		s.If = r.guard(m)
	}
	var among []string
	switch s.On {
	case api.OnEvent:
		among = append(among, m.Events...)
		for _, x := range m.Stages {
			if x.Role != "" {
				among = append(among, x.Name)
			}
		}
	case api.OnOpened, api.OnClosed:
		for _, x := range m.Stages {
			among = append(among, x.Name)
		}
	case api.OnDone, api.OnUndone:
		for _, x := range m.Stones {
			among = append(among, x.Name)
		}
	}
	if len(among) == 0 {
		s.On = api.OnAny
		return s
	}
	s.Name = r.one(among...)
	return s
}

// lists are those of the sentries of m, as what they can be turned by.
func lists(m *api.Model) []*[]api.Sentry {
	var l []*[]api.Sentry
	for i := range m.Stages {
		l = append(l, &m.Stages[i].Opens, &m.Stages[i].Closes)
	}
	for i := range m.Stones {
		l = append(l, &m.Stones[i].Done, &m.Stones[i].Undo)
	}
	return l
}

// any is a model without faults, of up to n sentries, that may loop.
func (r drawer) any(stages, stones, n int) api.Model {
	m := r.frame(r.Intn(stages+1), r.Intn(stones+1))
	l := lists(&m)
	for range r.Intn(n + 1) {
		if len(l) > 0 {
			to := l[r.Intn(len(l))]
			*to = append(*to, r.sentry(m))
		}
	}
	return m
}

// straight is a model without loops: what would make one is taken back.
func (r drawer) straight(stages, stones, n int) api.Model {
	m := r.frame(stages, stones)
	l := lists(&m)
	for range n {
		to := l[r.Intn(len(l))]
		*to = append(*to, r.sentry(m))
		if secondLoops(m) {
			*to = (*to)[:len(*to)-1]
		}
	}
	return m
}

// deep is a copy that shares no list with m.
func deep(m api.Model) api.Model {
	m.Attrs = append([]api.Attr(nil), m.Attrs...)
	m.Events = append([]string(nil), m.Events...)
	m.Stages = append([]api.Stage(nil), m.Stages...)
	m.Stones = append([]api.Stone(nil), m.Stones...)
	m.Apart = append([][2]string(nil), m.Apart...)
	for _, l := range lists(&m) {
		*l = append([]api.Sentry(nil), *l...)
	}
	return m
}

// turned is m with something other than it was: it may be then, or not.
func (r drawer) turned(m api.Model) api.Model {
	m = deep(m)
	name := r.one("", "a", "b", "n1", "and", "A", "1a", "a b", "é", strings.Repeat("n", 32), strings.Repeat("n", 33))
	number := []int{-2, -1, 0, 1, 2, 31, 32, 1 << 40, 1<<40 + 1, -1 << 62, 1 << 62}[r.Intn(11)]
	some := func(n int) int { return r.Intn(max(n, 1)) }
	switch at := r.Intn(12); {
	case at == 0:
		m.Name = name
	case at == 1 && len(m.Attrs) > 0:
		m.Attrs[some(len(m.Attrs))] = api.Attr{Name: name, Kind: uint8(r.Intn(5))}
	case at == 2 && len(m.Events) > 0:
		m.Events[some(len(m.Events))] = name
	case at == 3 && len(m.Stages) > 0:
		m.Stages[some(len(m.Stages))].Name = name
	case at == 4 && len(m.Stages) > 0:
		m.Stages[some(len(m.Stages))].In = number
	case at == 5 && len(m.Stages) > 0:
		m.Stages[some(len(m.Stages))].Role = name
	case at == 6 && len(m.Stages) > 0:
		m.Stages[some(len(m.Stages))].After = number
	case at == 7 && len(m.Stages) > 0:
		m.Stages[some(len(m.Stages))].Event = name
	case at == 8 && len(m.Stones) > 0:
		m.Stones[some(len(m.Stones))].Name = name
	case at == 9:
		m.Apart = append(m.Apart, [2]string{name, "b"})
	default:
		for _, l := range lists(&m) {
			if len(*l) > 0 && r.Intn(2) == 0 {
				s := &(*l)[some(len(*l))]
				switch r.Intn(3) {
				case 0:
					s.On = uint8(r.Intn(8))
				case 1:
					s.Name = name
				case 2:
					s.If = r.one("", "x", "1", "open(a)", "done(a)", "open(", "true", strings.Repeat("not ", 31)+"true", strings.Repeat("not ", 32)+"true")
				}
				break
			}
		}
	}
	return m
}
