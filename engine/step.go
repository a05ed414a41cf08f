package engine

import (
	"slices"

	"docket/api"
	"docket/guard"
)

// The kinds of places: by what their sentries bring about.
const (
	opens = 1 + iota
	closes
	reaches
	undoes
)

// step is what an event brings about in a case, as far as it has come.
type step struct {
	m     api.Model
	c     api.Case
	event string
	told  []api.Step
}

// give sets what the event names.
func (s *step) give(x api.Event) {
	for i, name := range x.Names {
		s.c.Values[attrAt(s.m, name)] = plain(x.Values[i])
	}
}

// ask asks each sentry once; those behind one that holds see what it did.
func (s *step) ask(order [][3]int) {
	deeds := [...]func(number int){opens: s.open, closes: s.close, reaches: s.reach, undoes: s.undo}
	for _, place := range order {
		if s.holds(sentryAt(s.m, place)) {
			deeds[place[0]](place[1])
		}
	}
}

func sentryAt(m api.Model, place [3]int) api.Sentry {
	number, own := place[1], place[2]
	switch place[0] {
	case opens:
		return m.Stages[number].Opens[own]
	case closes:
		return m.Stages[number].Closes[own]
	case reaches:
		return m.Stones[number].Done[own]
	}
	return m.Stones[number].Undo[own]
}

func (s *step) holds(x api.Sentry) bool {
	return s.came(x) && (x.If == "" || s.isTrue(x.If))
}

// came tells whether what a sentry waits for came about in this step.
func (s *step) came(x api.Sentry) bool {
	switch x.On {
	case api.OnAny:
		return true
	case api.OnEvent:
		return x.Name == s.event
	}
	return slices.Contains(s.told, api.Step{On: x.On, Name: x.Name})
}

// isTrue is false for a guard that has no worth, too: beside that error the value is none.
func (s *step) isTrue(text string) bool {
	g, _, _ := guard.Read(text)
	v, _ := guard.Worth(g, s.m, s.c)
	return v.Bool
}

func (s *step) tell(on uint8, name string) {
	s.told = append(s.told, api.Step{On: on, Name: name})
}

func (s *step) open(number int) {
	stage := s.m.Stages[number]
	if s.c.Open[number] || stage.In >= 0 && !s.c.Open[stage.In] {
		return
	}
	s.c.Open[number] = true
	s.tell(api.OnOpened, stage.Name)
}

// close goes from the last stage down, as those within a stage have greater numbers. Within one that is not open none is.
func (s *step) close(number int) {
	for i := len(s.m.Stages) - 1; i >= number; i-- {
		if s.c.Open[i] && s.isPartOf(i, number) {
			s.c.Open[i] = false
			s.tell(api.OnClosed, s.m.Stages[i].Name)
		}
	}
}

// isPartOf tells whether a stage is that one or stands within it.
func (s *step) isPartOf(stage, whole int) bool {
	for stage > whole {
		stage = s.m.Stages[stage].In
	}
	return stage == whole
}

func (s *step) reach(number int) {
	if s.c.Done[number] {
		return
	}
	s.c.Done[number] = true
	s.tell(api.OnDone, s.m.Stones[number].Name)
}

func (s *step) undo(number int) {
	if !s.c.Done[number] {
		return
	}
	s.c.Done[number] = false
	s.tell(api.OnUndone, s.m.Stones[number].Name)
}
