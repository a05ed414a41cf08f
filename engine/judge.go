package engine

import (
	"math"
	"slices"

	"docket/api"
	"docket/json"
)

// caseFits asks for a model that may be.
func caseFits(m api.Model, c api.Case) bool {
	return isNumber(c.Id) && isNumber(c.Version) && c.Model == m.Name &&
		valuesFit(m, c.Values) && openFits(m, c.Open) && len(c.Done) == len(m.Stones) && actedFits(c.Acted)
}

func isNumber(n int) bool { return n >= 0 && n <= math.MaxInt32 }

func valuesFit(m api.Model, l []api.Json) bool {
	if len(l) != len(m.Attrs) {
		return false
	}
	for i, a := range m.Attrs {
		if !valueFits(a, l[i]) {
			return false
		}
	}
	return true
}

func valueFits(a api.Attr, v api.Json) bool {
	return v.Kind == blank(a.Kind).Kind && json.Check(v) == api.OK
}

// openFits tells whether no stage is open within one that is not.
func openFits(m api.Model, open []bool) bool {
	if len(open) != len(m.Stages) {
		return false
	}
	for i, s := range m.Stages {
		if open[i] && s.In >= 0 && !open[s.In] {
			return false
		}
	}
	return true
}

func actedFits(l []api.Acted) bool {
	if len(l) > api.MaxItems {
		return false
	}
	for _, a := range l {
		if len(a.User) > api.MaxName || !isName(a.Role) {
			return false
		}
	}
	return true
}

func isName(s string) bool {
	if len(s) < 1 || len(s) > api.MaxName {
		return false
	}
	for i := range len(s) {
		if !isNameByte(s[i]) {
			return false
		}
	}
	return true
}

func isNameByte(c byte) bool {
	return 'a' <= c && c <= 'z' || '0' <= c && c <= '9' || c == '-' || c == '_' || c == '.'
}

// eventFits asks for a model that may be.
func eventFits(m api.Model, x api.Event) bool {
	if x.Name != "" && !isEvent(m, x.Name) || len(x.Names) != len(x.Values) {
		return false
	}
	given := make([]bool, len(m.Attrs))
	for i, name := range x.Names {
		at := attrAt(m, name)
		if at < 0 || given[at] || !valueFits(m.Attrs[at], x.Values[i]) {
			return false
		}
		given[at] = true
	}
	return true
}

// isEvent takes a stage on which someone works as an event, too: it comes when that work is done.
func isEvent(m api.Model, name string) bool {
	i := stageAt(m, name)
	return slices.Contains(m.Events, name) || i >= 0 && m.Stages[i].Role != ""
}

// attrAt, stageAt and stoneAt find the one of that name; -1, if there is none.
func attrAt(m api.Model, name string) int {
	return slices.IndexFunc(m.Attrs, func(a api.Attr) bool { return a.Name == name })
}

func stageAt(m api.Model, name string) int {
	return slices.IndexFunc(m.Stages, func(s api.Stage) bool { return s.Name == name })
}

func stoneAt(m api.Model, name string) int {
	return slices.IndexFunc(m.Stones, func(s api.Stone) bool { return s.Name == name })
}
