package model

import (
	"slices"

	"docket/api"
	"docket/guard"
)

const maxEvents = 32

// judge tells what is wrong with m, but for its sentries.
func judge(m api.Model) api.Errno {
	switch {
	case !isName(m.Name):
		return api.ErrName
	case hasMany(m):
		return api.ErrMany
	case !namesFit(m) || !stagesFit(m) || !apartFits(m.Apart):
		return api.ErrModel
	}
	return api.OK
}

// isName tells whether s can name something in a guard: it must be read as just that, without blanks or brackets.
func isName(s string) bool {
	if len(s) > api.MaxName {
		return false
	}
	g, _, e := guard.Read(s)
	return e == api.OK && g.Kind == api.GuardAttr && g.Text == s
}

func hasMany(m api.Model) bool {
	return len(m.Attrs) > api.MaxAttrs || len(m.Events) > maxEvents || len(m.Stages) > api.MaxStages ||
		len(m.Stones) > api.MaxStages || len(m.Apart) > api.MaxRoles || countSentries(m) > api.MaxSentries
}

func countSentries(m api.Model) int {
	n := 0
	for _, s := range m.Stages {
		n += len(s.Opens) + len(s.Closes)
	}
	for _, s := range m.Stones {
		n += len(s.Done) + len(s.Undo)
	}
	return n
}

// namesFit asks for events and stages at once, as an event may not be named as a stage is.
func namesFit(m api.Model) bool {
	for _, a := range m.Attrs {
		if a.Kind < api.IsBool || a.Kind > api.IsText {
			return false
		}
	}
	attrs := each(m.Attrs, func(a api.Attr) string { return a.Name })
	stages := each(m.Stages, func(s api.Stage) string { return s.Name })
	stones := each(m.Stones, func(s api.Stone) string { return s.Name })
	return areNames(attrs) && areNames(slices.Concat(m.Events, stages)) && areNames(stones)
}

// areNames tells whether each one is a name, and none is another one's.
func areNames(l []string) bool {
	seen := map[string]struct{}{}
	for _, name := range l {
		if !isName(name) {
			return false
		}
		seen[name] = struct{}{}
	}
	return len(seen) == len(l)
}

func stagesFit(m api.Model) bool {
	for i, s := range m.Stages {
		if s.In < -1 || s.In >= i || s.Role != "" && !isName(s.Role) || !deadlineFits(s, m) {
			return false
		}
	}
	return true
}

// deadlineFits asks for an event just where one comes after some time.
func deadlineFits(s api.Stage, m api.Model) bool {
	if s.After == 0 {
		return s.Event == ""
	}
	return s.After > 0 && s.After <= api.MaxClock && slices.Contains(m.Events, s.Event)
}

func sentriesFit(l []posted, m api.Model) bool {
	for _, p := range l {
		if !waitFits(p.Sentry, m) || p.If != "" && !isTruth(p.guard, m) {
			return false
		}
	}
	return true
}

func waitFits(s api.Sentry, m api.Model) bool {
	switch s.On {
	case api.OnAny:
		return s.Name == ""
	case api.OnEvent:
		return isEvent(s.Name, m)
	case api.OnOpened, api.OnClosed:
		return stageAt(m, s.Name) >= 0
	case api.OnDone, api.OnUndone:
		return stoneAt(m, s.Name) >= 0
	}
	return false
}

// isEvent takes a stage on which someone works as an event, too: it comes when that work is done.
func isEvent(name string, m api.Model) bool {
	i := stageAt(m, name)
	return slices.Contains(m.Events, name) || i >= 0 && m.Stages[i].Role != ""
}

// isTruth tells whether a guard is true or false in the cases of m.
func isTruth(g api.Guard, m api.Model) bool {
	kind, e := guard.Kind(g, m)
	return e == api.OK && kind == api.IsBool
}

func apartFits(l [][2]string) bool {
	for _, pair := range l {
		if !areNames(pair[:]) {
			return false
		}
	}
	return true
}

// stageAt and stoneAt find the first one of that name; -1, if there is none.
func stageAt(m api.Model, name string) int {
	return slices.IndexFunc(m.Stages, func(s api.Stage) bool { return s.Name == name })
}

func stoneAt(m api.Model, name string) int {
	return slices.IndexFunc(m.Stones, func(s api.Stone) bool { return s.Name == name })
}
