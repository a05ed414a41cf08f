package guard

import (
	"slices"

	"docket/api"
)

// kindOf judges the kids from the left, each ahead of what it is a kid of.
func kindOf(g api.Guard, m api.Model) (uint8, api.Errno) {
	p := partOf(g)
	var kinds []uint8
	for _, kid := range p.kids() {
		k, e := kindOf(kid, m)
		if e != api.OK {
			return 0, e
		}
		kinds = append(kinds, k)
	}
	return kindOver(p, kinds, m)
}

// kindOver is the kind of a part whose kids are of these kinds.
func kindOver(p part, kinds []uint8, m api.Model) (uint8, api.Errno) {
	fit, kind := true, api.IsBool
	switch p := p.(type) {
	case truth:
	case number:
		kind = api.IsInt
	case chars:
		kind = api.IsText
	case attr:
		i := attrAt(m, p.name)
		if i < 0 {
			return 0, api.ErrNone
		}
		kind = m.Attrs[i].Kind
		_, fit = valueKind(kind)
	case open:
		if stageAt(m, p.name) < 0 {
			return 0, api.ErrNone
		}
	case done:
		if stoneAt(m, p.name) < 0 {
			return 0, api.ErrNone
		}
	case not, and, or:
		fit = all(kinds, api.IsBool)
	case same:
		fit = all(kinds, kinds[0])
	case less:
		fit = all(kinds, api.IsInt)
	case sum, difference, product:
		fit, kind = all(kinds, api.IsInt), api.IsInt
	}
	if !fit {
		return 0, api.ErrKind
	}
	return kind, api.OK
}

func all(kinds []uint8, kind uint8) bool {
	return !slices.ContainsFunc(kinds, func(k uint8) bool { return k != kind })
}

// valueKind is the Kind of the values that an attribute of a kind has.
func valueKind(kind uint8) (uint8, bool) {
	switch kind {
	case api.IsBool:
		return api.Bool, true
	case api.IsInt:
		return api.Int, true
	case api.IsText:
		return api.Text, true
	}
	return 0, false
}

// attrAt, stageAt and stoneAt find the first one of that name; -1, if there is none.
func attrAt(m api.Model, name string) int {
	return slices.IndexFunc(m.Attrs, func(a api.Attr) bool { return a.Name == name })
}

func stageAt(m api.Model, name string) int {
	return slices.IndexFunc(m.Stages, func(s api.Stage) bool { return s.Name == name })
}

func stoneAt(m api.Model, name string) int {
	return slices.IndexFunc(m.Stones, func(s api.Stone) bool { return s.Name == name })
}

// named gathers names, as often as they stand there.
type named struct{ attrs, stages, stones []string }

func (n *named) by(g api.Guard) {
	p := partOf(g)
	switch p := p.(type) {
	case attr:
		n.attrs = append(n.attrs, p.name)
	case open:
		n.stages = append(n.stages, p.name)
	case done:
		n.stones = append(n.stones, p.name)
	}
	for _, kid := range p.kids() {
		n.by(kid)
	}
}
