package model

import (
	"docket/api"
	"docket/guard"
)

// The kinds of places: by what their sentries bring about.
const (
	opens = 1 + iota
	closes
	reaches
	undoes
)

// side is one of a model's lists of sentries: those of one kind, of one stage or milestone. What leans on one of its places leans on all of them.
type side struct{ kind, number int }

func sideOf(place [3]int) side { return side{place[0], place[1]} }

// posted is a sentry at its place, with the guard that its If is the text of; that has no Kind, if it is the text of none.
type posted struct {
	api.Sentry
	at    [3]int
	guard api.Guard
}

// sentries are all of m's, their places rising.
func sentries(m api.Model) []posted {
	var l []posted
	add := func(kind, number int, of []api.Sentry) {
		for i, s := range of {
			g, _, _ := guard.Read(s.If)
			l = append(l, posted{s, [3]int{kind, number, i}, g})
		}
	}
	for i, s := range m.Stages {
		add(opens, i, s.Opens)
	}
	for i, s := range m.Stages {
		add(closes, i, s.Closes)
	}
	for i, s := range m.Stones {
		add(reaches, i, s.Done)
	}
	for i, s := range m.Stones {
		add(undoes, i, s.Undo)
	}
	return l
}

// web has for each place of a model the sides that it leans on.
type web map[[3]int]map[side]struct{}

// webOf asks for a model without faults, but for loops, and all its sentries.
func webOf(m api.Model, l []posted) web {
	w := web{}
	for _, p := range l {
		w[p.at] = map[side]struct{}{}
		w.add(p.at, waitSides(m, p.Sentry))
		w.add(p.at, guardSides(m, p.guard))
		if p.at[0] == opens {
			w.add(p.at, openSides(m, m.Stages[p.at[1]].In))
		}
	}
	return w
}

func (w web) add(place [3]int, on []side) {
	for _, s := range on {
		w[place][s] = struct{}{}
	}
}

func (w web) has(place [3]int) bool {
	_, is := w[place]
	return is
}

func (w web) leans(a, b [3]int) bool {
	_, is := w[a][sideOf(b)]
	return is
}

// waitSides bring about what s waits for.
func waitSides(m api.Model, s api.Sentry) []side {
	switch s.On {
	case api.OnOpened:
		return []side{{opens, stageAt(m, s.Name)}}
	case api.OnClosed:
		return closeSides(m, stageAt(m, s.Name))
	case api.OnDone:
		return []side{{reaches, stoneAt(m, s.Name)}}
	case api.OnUndone:
		return []side{{undoes, stoneAt(m, s.Name)}}
	}
	return nil
}

// guardSides turn what a guard sees; none, if it has no Kind.
func guardSides(m api.Model, g api.Guard) []side {
	_, stages, stones, _ := guard.Names(g)
	var l []side
	for _, name := range stages {
		l = append(l, openSides(m, stageAt(m, name))...)
	}
	for _, name := range stones {
		i := stoneAt(m, name)
		l = append(l, side{reaches, i}, side{undoes, i})
	}
	return l
}

// openSides turn whether a stage is open; none, if it is none (-1).
func openSides(m api.Model, stage int) []side {
	if stage < 0 {
		return nil
	}
	return append(closeSides(m, stage), side{opens, stage})
}

// closeSides close a stage: it closes with each one that it stands within.
func closeSides(m api.Model, stage int) []side {
	var l []side
	for ; stage >= 0; stage = m.Stages[stage].In {
		l = append(l, side{closes, stage})
	}
	return l
}
