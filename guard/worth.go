package guard

import (
	"docket/api"
	"docket/json"
)

// fits tells whether c has what a case of m has.
func fits(c api.Case, m api.Model) bool {
	if len(c.Values) != len(m.Attrs) || len(c.Open) != len(m.Stages) || len(c.Done) != len(m.Stones) {
		return false
	}
	for i, a := range m.Attrs {
		kind, is := valueKind(a.Kind)
		if !is || c.Values[i].Kind != kind || json.Check(c.Values[i]) != api.OK {
			return false
		}
	}
	return true
}

// scene is what guards that have a kind are worth something in.
type scene struct {
	m api.Model
	c api.Case
}

// worth is no worth, and false, if a number that is asked on the way is beyond its bounds.
func (s scene) worth(g api.Guard) (api.Json, bool) {
	switch p := partOf(g).(type) {
	case truth:
		return json.Yes(p.is), true
	case number:
		return json.Num(p.n), true
	case chars:
		return json.Str(p.text), true
	case attr:
		return plain(s.c.Values[attrAt(s.m, p.name)]), true
	case open:
		return json.Yes(s.c.Open[stageAt(s.m, p.name)]), true
	case done:
		return json.Yes(s.c.Done[stoneAt(s.m, p.name)]), true
	case not:
		v, has := s.worth(p.list[0])
		return json.Yes(!v.Bool), has
	case and:
		return s.unless(p.stem, false)
	case or:
		return s.unless(p.stem, true)
	case same:
		a, b, has := s.both(p.stem)
		return json.Yes(json.Same(a, b)), has
	case less:
		a, b, has := s.both(p.stem)
		return json.Yes(a.Int < b.Int), has
	case sum:
		return s.reckoned(p.stem, plus)
	case difference:
		return s.reckoned(p.stem, minus)
	case product:
		return s.reckoned(p.stem, times)
	}
	return api.Json{}, false
}

// plain has the fields of a value without lists alone: lists without elements may have spare room.
func plain(v api.Json) api.Json {
	return api.Json{Kind: v.Kind, Bool: v.Bool, Int: v.Int, Text: v.Text}
}

// unless asks the second kid only where the first one's worth is not enough.
func (s scene) unless(p stem, enough bool) (api.Json, bool) {
	v, has := s.worth(p.list[0])
	if !has || v.Bool == enough {
		return v, has
	}
	return s.worth(p.list[1])
}

func (s scene) both(p stem) (a, b api.Json, has bool) {
	a, has = s.worth(p.list[0])
	if has {
		b, has = s.worth(p.list[1])
	}
	return a, b, has
}

func (s scene) reckoned(p stem, by func(a, b int64) (int64, bool)) (api.Json, bool) {
	a, b, has := s.both(p)
	if !has {
		return api.Json{}, false
	}
	n, is := by(a.Int, b.Int)
	return json.Num(n), is
}

// plus, minus and times tell beside the number whether it is the right one, not one that went round.
func plus(a, b int64) (int64, bool) {
	n := a + b
	return n, (n > a) == (b > 0)
}

func minus(a, b int64) (int64, bool) {
	n := a - b
	return n, (n < a) == (b > 0)
}

func times(a, b int64) (int64, bool) {
	switch a {
	case 0:
		return 0, true
	case -1: // the division would go round as well
		return minus(0, b)
	}
	n := a * b
	return n, n/a == b
}
