package model

import (
	stdjson "encoding/json"
	"fmt"
	"regexp"
	"strings"

	"docket/api"
	"docket/guard"
	"docket/json"
)

// What the chapter says, told once more by other means: patterns tell names, a matrix of all pairs tells what leans on what and is closed over its ways to tell loops, the order is sought by going through all places at each step; values are written as texts, and what may stand where in them is a table by paths. None of it calls the package's functions.

var (
	secondName  = regexp.MustCompile(`\A[a-z][-a-z0-9_.]{0,31}\z`)
	secondTaken = regexp.MustCompile(`\A(?:and|or|not|true|false|open|done)\z`)
)

func secondIsName(s string) bool { return secondName.MatchString(s) && !secondTaken.MatchString(s) }

// secondPlaces are all places of a model's sentries with them, rising.
func secondPlaces(m api.Model) (places [][3]int, all []api.Sentry) {
	for kind := 1; kind <= 4; kind++ {
		var lists [][]api.Sentry
		if kind <= 2 {
			for _, s := range m.Stages {
				lists = append(lists, [][]api.Sentry{s.Opens, s.Closes}[kind-1])
			}
		} else {
			for _, s := range m.Stones {
				lists = append(lists, [][]api.Sentry{s.Done, s.Undo}[kind-3])
			}
		}
		for i, l := range lists {
			for j, s := range l {
				places, all = append(places, [3]int{kind, i, j}), append(all, s)
			}
		}
	}
	return places, all
}

// secondFaults are why ErrModel must be told of a model that has a name, and not too many of anything.
func secondFaults(m api.Model) (faults []string) {
	fault := func(is bool, text string, about ...any) {
		if is {
			faults = append(faults, fmt.Sprintf(text, about...))
		}
	}
	names := map[string]int{}
	for i, a := range m.Attrs {
		fault(!secondIsName(a.Name), "attribute %d", i)
		fault(a.Kind == 0 || a.Kind >= 4, "kind of attribute %d", i)
		names["attr "+a.Name]++
	}
	events := ""
	for i, e := range m.Events {
		fault(!secondIsName(e), "event %d", i)
		names["event "+e]++
		events += "," + e + ","
	}
	named, worked, stones := "", "", ""
	for i, s := range m.Stages {
		fault(!secondIsName(s.Name), "stage %d", i)
		fault(s.In != -1 && (s.In < 0 || s.In >= i), "in of stage %d", i)
		fault(s.Role != "" && !secondIsName(s.Role), "role of stage %d", i)
		fault(s.After < 0 || s.After > 1099511627776, "after of stage %d", i)
		fault(s.After == 0 && s.Event != "" || s.After != 0 && (s.Event == "" || !strings.Contains(events, ","+s.Event+",")), "event of stage %d", i)
		names["event "+s.Name]++
		named += "," + s.Name + ","
		if s.Role != "" {
			worked += "," + s.Name + ","
		}
	}
	for i, s := range m.Stones {
		fault(!secondIsName(s.Name), "milestone %d", i)
		names["stone "+s.Name]++
		stones += "," + s.Name + ","
	}
	for name, n := range names {
		fault(n > 1, "%s is there %d times", name, n)
	}
	places, all := secondPlaces(m)
	for i, s := range all {
		if s.On > 5 {
			fault(true, "on of %v", places[i])
			continue
		}
		among := []string{"", events + worked, named, named, stones, stones}[s.On]
		fault((s.On == 0) != (s.Name == "") || s.On > 0 && !strings.Contains(among, ","+s.Name+","), "name of %v", places[i])
		if s.If != "" {
			g, _, e := guard.Read(s.If)
			kind, kindE := guard.Kind(g, m)
			fault(e != api.OK || kindE != api.OK || kind != api.IsBool, "guard of %v", places[i])
		}
	}
	for i, pair := range m.Apart {
		fault(!secondIsName(pair[0]) || !secondIsName(pair[1]) || pair[0] == pair[1], "pair %d", i)
	}
	return faults
}

// secondWithin tells whether stage i is stage j, or stands within it.
func secondWithin(m api.Model, i, j int) bool {
	return i == j || i >= 0 && secondWithin(m, m.Stages[i].In, j)
}

// secondLeans goes from b: what turns with it, and whether the sentry at a asks for that.
func secondLeans(m api.Model, a [3]int, s api.Sentry, b [3]int) bool {
	g, _, _ := guard.Read(s.If)
	_, stages, stones, _ := guard.Names(g)
	waits := func(on uint8, name string) bool { return s.On == on && s.Name == name }
	sees := func(names []string, name string) bool {
		return strings.Contains(","+strings.Join(names, ",")+",", ","+name+",")
	}
	in := -1
	if a[0] == 1 {
		in = m.Stages[a[1]].In
	}
	switch b[0] {
	case 1:
		name := m.Stages[b[1]].Name
		return waits(api.OnOpened, name) || sees(stages, name) || in == b[1]
	case 2:
		for i, x := range m.Stages {
			if secondWithin(m, i, b[1]) && (waits(api.OnClosed, x.Name) || sees(stages, x.Name) || in == i) {
				return true
			}
		}
		return false
	case 3:
		name := m.Stones[b[1]].Name
		return waits(api.OnDone, name) || sees(stones, name)
	}
	name := m.Stones[b[1]].Name
	return waits(api.OnUndone, name) || sees(stones, name)
}

// secondMatrix has for each two places whether the first one leans on the second one.
func secondMatrix(m api.Model) [][]bool {
	places, all := secondPlaces(m)
	l := make([][]bool, len(places))
	for i, a := range places {
		for _, b := range places {
			l[i] = append(l[i], secondLeans(m, a, all[i], b))
		}
	}
	return l
}

// secondLoops closes the matrix over ways of any length.
func secondLoops(m api.Model) bool {
	l := secondMatrix(m)
	for k := range l {
		for i := range l {
			if l[i][k] {
				for j := range l {
					l[i][j] = l[i][j] || l[k][j]
				}
			}
		}
	}
	for i := range l {
		if l[i][i] {
			return true
		}
	}
	return false
}

func secondCheck(m api.Model) api.Errno {
	_, all := secondPlaces(m)
	switch {
	case !secondIsName(m.Name):
		return api.ErrName
	case max(len(m.Attrs), len(m.Events), len(m.Stages), len(m.Stones), len(m.Apart)) > 32, len(all) > 128:
		return api.ErrMany
	case len(secondFaults(m)) > 0:
		return api.ErrModel
	case secondLoops(m):
		return api.ErrLoop
	}
	return api.OK
}

// secondOrder is that of a model that may be.
func secondOrder(m api.Model) [][3]int {
	places, _ := secondPlaces(m)
	l := secondMatrix(m)
	in := make([]bool, len(places))
	var order [][3]int
	for range places {
		for i := range places {
			may := !in[i]
			for j := range places {
				may = may && (in[j] || !l[i][j])
			}
			if may {
				in[i], order = true, append(order, places[i])
				break
			}
		}
	}
	return order
}

// secondText is what To tells of a model that may be, as a text.
func secondText(m api.Model) string {
	sentries := func(l []api.Sentry) string {
		var s []string
		for _, x := range l {
			s = append(s, fmt.Sprintf("[%q,%q,%q]", strings.Fields("any event opened closed done undone")[x.On], x.Name, x.If))
		}
		return "[" + strings.Join(s, ",") + "]"
	}
	var attrs, events, stages, stones, apart []string
	for _, a := range m.Attrs {
		attrs = append(attrs, fmt.Sprintf("[%q,%q]", a.Name, strings.Fields("- bool int text")[a.Kind]))
	}
	for _, e := range m.Events {
		events = append(events, fmt.Sprintf("%q", e))
	}
	for _, s := range m.Stages {
		stages = append(stages, fmt.Sprintf(`{"name":%q,"in":%d,"opens":%s,"closes":%s,"role":%q,"after":%d,"event":%q}`, s.Name, s.In, sentries(s.Opens), sentries(s.Closes), s.Role, s.After, s.Event))
	}
	for _, s := range m.Stones {
		stones = append(stones, fmt.Sprintf(`{"name":%q,"done":%s,"undo":%s}`, s.Name, sentries(s.Done), sentries(s.Undo)))
	}
	for _, p := range m.Apart {
		apart = append(apart, fmt.Sprintf("[%q,%q]", p[0], p[1]))
	}
	of := func(l []string) string { return "[" + strings.Join(l, ",") + "]" }
	return fmt.Sprintf(`{"name":%q,"attrs":%s,"events":%s,"stages":%s,"stones":%s,"apart":%s}`, m.Name, of(attrs), of(events), of(stages), of(stones), of(apart))
}

// written is a value as a text, however long.
func written(v api.Json) string {
	quoted := func(s string) string {
		var b strings.Builder
		w := stdjson.NewEncoder(&b)
		w.SetEscapeHTML(false)
		w.Encode(s)
		return strings.TrimSpace(b.String())
	}
	var l []string
	switch v.Kind {
	case api.Null:
		return "null"
	case api.Bool:
		return fmt.Sprint(v.Bool)
	case api.Int:
		return fmt.Sprint(v.Int)
	case api.Number:
		return v.Text
	case api.Text:
		return quoted(v.Text)
	case api.List:
		for _, x := range v.Items {
			l = append(l, written(x))
		}
		return "[" + strings.Join(l, ",") + "]"
	}
	for i, x := range v.Items {
		l = append(l, quoted(v.Names[i])+":"+written(x))
	}
	return "{" + strings.Join(l, ",") + "}"
}

// secondForm tells for each path what must stand there: 4 a Text, 5 a List, 6 an Object, 2 an Int; of lists how many, where that is told. An item's path ends with #.
var secondForm = map[string][2]int{
	"": {6}, ".name": {4}, ".attrs": {5}, ".attrs#": {5, 2}, ".attrs##": {4}, ".events": {5}, ".events#": {4}, ".apart": {5}, ".apart#": {5, 2}, ".apart##": {4},
	".stages": {5}, ".stages#": {6}, ".stages#.name": {4}, ".stages#.in": {2}, ".stages#.role": {4}, ".stages#.after": {2}, ".stages#.event": {4},
	".stages#.opens": {5}, ".stages#.opens#": {5, 3}, ".stages#.opens##": {4}, ".stages#.closes": {5}, ".stages#.closes#": {5, 3}, ".stages#.closes##": {4},
	".stones": {5}, ".stones#": {6}, ".stones#.name": {4}, ".stones#.done": {5}, ".stones#.done#": {5, 3}, ".stones#.done##": {4}, ".stones#.undo": {5}, ".stones#.undo#": {5, 3}, ".stones#.undo##": {4},
}

// secondBad tells whether something in v at a path is not as the form says.
func secondBad(path string, v api.Json) bool {
	form, is := secondForm[path]
	if !is || int(v.Kind) != form[0] || form[1] > 0 && len(v.Items) != form[1] {
		return true
	}
	switch {
	case path == ".stages#.in" && (v.Int < -1 || v.Int > 31), path == ".stages#.after" && (v.Int < 0 || v.Int > 1<<40):
		return true
	}
	for i, x := range v.Items {
		next := path + "#"
		if v.Kind == api.Object {
			next = path + "." + v.Names[i]
		}
		if secondBad(next, x) {
			return true
		}
	}
	if form[1] == 3 {
		return !strings.Contains(",any,event,opened,closed,done,undone,", ","+v.Items[0].Text+",") || strings.Contains(v.Items[0].Text, ",") || v.Items[0].Text == ""
	}
	return path == ".attrs#" && v.Items[1].Text != "bool" && v.Items[1].Text != "int" && v.Items[1].Text != "text"
}

func secondFrom(v api.Json) (api.Model, api.Errno) {
	if json.Check(v) != api.OK || secondBad("", v) {
		return api.Model{}, api.ErrBad
	}
	var told struct {
		Name         string
		Attrs, Apart [][]string
		Events       []string
		Stages       []struct {
			Name, Role, Event string
			In                *int
			After             int
			Opens, Closes     [][]string
		}
		Stones []struct {
			Name       string
			Done, Undo [][]string
		}
	}
	if err := stdjson.Unmarshal([]byte(written(v)), &told); err != nil {
		panic(err)
	}
	sentries := func(l [][]string) (all []api.Sentry) {
		for _, x := range l {
			on := strings.Index("any    event  opened closed done   undone", x[0]+" ")
			if x[0] == "undone" {
				on = 35
			}
			all = append(all, api.Sentry{On: uint8(on / 7), Name: x[1], If: x[2]})
		}
		return all
	}
	m := api.Model{Name: told.Name, Events: told.Events}
	for _, a := range told.Attrs {
		m.Attrs = append(m.Attrs, api.Attr{Name: a[0], Kind: map[string]uint8{"bool": 1, "int": 2, "text": 3}[a[1]]})
	}
	for _, s := range told.Stages {
		in := -1
		if s.In != nil {
			in = *s.In
		}
		m.Stages = append(m.Stages, api.Stage{Name: s.Name, In: in, Opens: sentries(s.Opens), Closes: sentries(s.Closes), Role: s.Role, After: s.After, Event: s.Event})
	}
	for _, s := range told.Stones {
		m.Stones = append(m.Stones, api.Stone{Name: s.Name, Done: sentries(s.Done), Undo: sentries(s.Undo)})
	}
	for _, p := range told.Apart {
		m.Apart = append(m.Apart, [2]string{p[0], p[1]})
	}
	if e := secondCheck(m); e != api.OK {
		return api.Model{}, e
	}
	return m, api.OK
}
