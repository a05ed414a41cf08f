package engine

import (
	"fmt"
	"math/big"
	"slices"
	"strings"

	"docket/api"
	"docket/guard"
	"docket/json"
	"docket/model"
)

// A second version of the engine: what stands in a case is kept by its name, in maps, and numbers are as great as they like.
type world struct {
	m          api.Model
	values     map[string]api.Json
	open, done map[string]bool
	told       []string
}

var (
	kindOfAttr = map[uint8]uint8{api.IsBool: api.Bool, api.IsInt: api.Int, api.IsText: api.Text}
	happens    = []string{"any", "event", "opened", "closed", "done", "undone"}
)

func worldOf(m api.Model, c api.Case) *world {
	w := &world{m: m, values: map[string]api.Json{}, open: map[string]bool{}, done: map[string]bool{}}
	for i, v := range c.Values {
		w.values[m.Attrs[i].Name] = v
	}
	for i, is := range c.Open {
		w.open[m.Stages[i].Name] = is
	}
	for i, is := range c.Done {
		w.done[m.Stones[i].Name] = is
	}
	return w
}

// write gives c what stands in the world.
func (w *world) write(m api.Model, c api.Case) api.Case {
	c.Values, c.Open, c.Done = nil, nil, nil
	for _, a := range m.Attrs {
		v, has := w.values[a.Name]
		if !has || v.Kind != kindOfAttr[a.Kind] {
			v = api.Json{Kind: kindOfAttr[a.Kind]}
		}
		c.Values = append(c.Values, v)
	}
	for _, s := range m.Stages {
		c.Open = append(c.Open, w.open[s.Name])
	}
	for _, s := range m.Stones {
		c.Done = append(c.Done, w.done[s.Name])
	}
	return c
}

// outer are the names of the stages that one stands within, the next one first.
func outer(m api.Model, i int) []string {
	var l []string
	for at := m.Stages[i].In; at >= 0; at = m.Stages[at].In {
		l = append(l, m.Stages[at].Name)
	}
	return l
}

func (w *world) say(what, name string) { w.told = append(w.told, what+" "+name) }

func (w *world) does(place [3]int) {
	i := place[1]
	switch place[0] {
	case 1:
		name, may := w.m.Stages[i].Name, true
		for _, out := range outer(w.m, i) {
			may = may && w.open[out]
		}
		if may && !w.open[name] {
			w.open[name] = true
			w.say("opened", name)
		}
	case 2:
		name := w.m.Stages[i].Name
		if w.open[name] {
			var l []string
			for k, s := range w.m.Stages {
				if w.open[s.Name] && slices.Contains(outer(w.m, k), name) {
					l = append([]string{s.Name}, l...)
				}
			}
			for _, one := range append(l, name) {
				delete(w.open, one)
				w.say("closed", one)
			}
		}
	case 3:
		if name := w.m.Stones[i].Name; !w.done[name] {
			w.done[name] = true
			w.say("done", name)
		}
	case 4:
		if name := w.m.Stones[i].Name; w.done[name] {
			delete(w.done, name)
			w.say("undone", name)
		}
	}
}

// secondSentry is the one at a place.
func secondSentry(m api.Model, place [3]int) api.Sentry {
	l := map[int]func(i int) []api.Sentry{
		1: func(i int) []api.Sentry { return m.Stages[i].Opens }, 2: func(i int) []api.Sentry { return m.Stages[i].Closes },
		3: func(i int) []api.Sentry { return m.Stones[i].Done }, 4: func(i int) []api.Sentry { return m.Stones[i].Undo },
	}
	return l[place[0]](place[1])[place[2]]
}

func (w *world) run(event string) int {
	order, _ := model.Order(w.m)
	for _, place := range order {
		s := secondSentry(w.m, place)
		came := s.On == api.OnAny || s.On == api.OnEvent && s.Name == event && event != ""
		if s.On > api.OnEvent {
			came = slices.Contains(w.told, happens[s.On]+" "+s.Name)
		}
		if came && s.If != "" {
			g, _, _ := guard.Read(s.If)
			is, has := w.worth(g).(bool)
			came = is && has
		}
		if came {
			w.does(place)
		}
	}
	return len(order)
}

// worth is a bool, a *big.Int or a string; nil for none.
func (w *world) worth(g api.Guard) any {
	kid := func(i int) any { return w.worth(g.Kids[i]) }
	switch g.Kind {
	case api.GuardTrue, api.GuardFalse:
		return g.Kind == api.GuardTrue
	case api.GuardInt:
		return big.NewInt(g.Int)
	case api.GuardText:
		return g.Text
	case api.GuardAttr:
		v := w.values[g.Text]
		return map[uint8]any{api.Bool: v.Bool, api.Int: big.NewInt(v.Int), api.Text: v.Text}[v.Kind]
	case api.GuardOpen:
		return w.open[g.Text]
	case api.GuardDone:
		return w.done[g.Text]
	case api.GuardNot:
		if is, has := kid(0).(bool); has {
			return !is
		}
		return nil
	case api.GuardAnd, api.GuardOr:
		if is, has := kid(0).(bool); !has || is == (g.Kind == api.GuardOr) {
			return kid(0)
		}
		return kid(1)
	}
	return w.two(g.Kind, kid(0), kid(1))
}

func (w *world) two(kind uint8, a, b any) any {
	if a == nil || b == nil {
		return nil
	}
	x, isNumber := a.(*big.Int)
	if !isNumber {
		return a == b
	}
	y, n := b.(*big.Int), new(big.Int)
	switch kind {
	case api.GuardSame:
		return x.Cmp(y) == 0
	case api.GuardLess:
		return x.Cmp(y) < 0
	case api.GuardAdd:
		n.Add(x, y)
	case api.GuardSub:
		n.Sub(x, y)
	case api.GuardMul:
		n.Mul(x, y)
	}
	if !n.IsInt64() {
		return nil
	}
	return n
}

func secondIsName(s string) bool {
	const may = "abcdefghijklmnopqrstuvwxyz0123456789-_."
	return s != "" && len(s) <= 32 && !strings.ContainsFunc(s, func(r rune) bool { return !strings.ContainsRune(may, r) })
}

func secondValueMay(v api.Json, kind uint8) bool {
	return v.Kind == kindOfAttr[kind] && json.Check(v) == api.OK
}

func secondCheck(m api.Model, c api.Case) api.Errno {
	if e := model.Check(m); e != api.OK {
		return e
	}
	bad := uint64(c.Id)>>31 != 0 || uint64(c.Version)>>31 != 0 || c.Model != m.Name
	bad = bad || len(c.Values) != len(m.Attrs) || len(c.Open) != len(m.Stages) || len(c.Done) != len(m.Stones) || len(c.Acted) > 1024
	if bad {
		return api.ErrCase
	}
	for i, v := range c.Values {
		bad = bad || !secondValueMay(v, m.Attrs[i].Kind)
	}
	w := worldOf(m, c)
	for i, is := range c.Open {
		for _, out := range outer(m, i) {
			bad = bad || is && !w.open[out]
		}
	}
	for _, a := range c.Acted {
		bad = bad || len(a.User) > 32 || !secondIsName(a.Role)
	}
	if bad {
		return api.ErrCase
	}
	return api.OK
}

// secondEvents are all names that an event of m may have.
func secondEvents(m api.Model) []string {
	l := append([]string{""}, m.Events...)
	for _, s := range m.Stages {
		if s.Role != "" {
			l = append(l, s.Name)
		}
	}
	return l
}

func secondRaise(m api.Model, c api.Case, x api.Event) (api.Case, string, int, api.Errno) {
	if e := secondCheck(m, c); e != api.OK {
		return api.Case{}, "", 0, e
	}
	kinds, names := map[string]uint8{}, map[string]bool{}
	for _, a := range m.Attrs {
		kinds[a.Name] = a.Kind
	}
	fits := slices.Contains(secondEvents(m), x.Name) && len(x.Names) == len(x.Values)
	w := worldOf(m, c)
	for i := 0; fits && i < len(x.Names); i++ {
		kind, is := kinds[x.Names[i]]
		fits = is && secondValueMay(x.Values[i], kind)
		names[x.Names[i]] = true
		w.values[x.Names[i]] = x.Values[i]
	}
	if !fits || len(names) != len(x.Names) {
		return api.Case{}, "", 0, api.ErrEvent
	}
	n := w.run(x.Name)
	return w.write(m, c), strings.Join(w.told, ", "), n, api.OK
}

func secondNew(m api.Model, id, version int) (api.Case, string, api.Errno) {
	if e := model.Check(m); e != api.OK {
		return api.Case{}, "", e
	}
	if uint64(id)>>31 != 0 || uint64(version)>>31 != 0 {
		return api.Case{}, "", api.ErrArg
	}
	w := worldOf(m, api.Case{})
	w.values = worldOf(m, w.write(m, api.Case{})).values
	w.run("")
	return w.write(m, api.Case{Id: id, Model: m.Name, Version: version}), strings.Join(w.told, ", "), api.OK
}

func secondMove(old, now api.Model, c api.Case, version int) (api.Case, api.Errno) {
	if e := secondCheck(old, c); e != api.OK {
		return api.Case{}, e
	}
	if e := model.Check(now); e != api.OK {
		return api.Case{}, e
	}
	if uint64(version)>>31 != 0 {
		return api.Case{}, api.ErrArg
	}
	if old.Name != now.Name {
		return api.Case{}, api.ErrCase
	}
	w := worldOf(old, c)
	stays := map[string]bool{}
	for i, s := range now.Stages {
		stays[s.Name] = w.open[s.Name]
		for _, out := range outer(now, i) {
			stays[s.Name] = stays[s.Name] && w.open[out]
		}
	}
	w.open, c.Version = stays, version
	return w.write(now, c), api.OK
}

// toldText tells steps by words.
func toldText(l []api.Step) string {
	var words []string
	for _, s := range l {
		words = append(words, happens[s.On]+" "+s.Name)
	}
	return strings.Join(words, ", ")
}

func shown(c api.Case) string { return fmt.Sprintf("%+v", c) }
