package model

import (
	"slices"

	"docket/api"
	"docket/json"
)

// reader reads a model out of a value. Once something is bad, what is read counts for nothing.
type reader struct{ bad bool }

func (r *reader) model(v api.Json) api.Model {
	r.object(v, "name", "attrs", "events", "stages", "stones", "apart")
	return api.Model{
		Name:   r.textBy(v, "name"),
		Attrs:  each(r.listBy(v, "attrs"), r.attr),
		Events: each(r.listBy(v, "events"), r.text),
		Stages: each(r.listBy(v, "stages"), r.stage),
		Stones: each(r.listBy(v, "stones"), r.stone),
		Apart:  each(r.listBy(v, "apart"), r.pair),
	}
}

func (r *reader) attr(v api.Json) api.Attr {
	l := r.texts(v, 2)
	return api.Attr{Name: l[0], Kind: api.IsBool + r.word(l[1], kindWords[:])}
}

func (r *reader) stage(v api.Json) api.Stage {
	r.object(v, "name", "in", "opens", "closes", "role", "after", "event")
	return api.Stage{
		Name:   r.textBy(v, "name"),
		In:     r.numberBy(v, "in", -1, api.MaxStages-1, -1),
		Opens:  each(r.listBy(v, "opens"), r.sentry),
		Closes: each(r.listBy(v, "closes"), r.sentry),
		Role:   r.textBy(v, "role"),
		After:  r.numberBy(v, "after", 0, api.MaxClock, 0),
		Event:  r.textBy(v, "event"),
	}
}

func (r *reader) stone(v api.Json) api.Stone {
	r.object(v, "name", "done", "undo")
	return api.Stone{
		Name: r.textBy(v, "name"),
		Done: each(r.listBy(v, "done"), r.sentry),
		Undo: each(r.listBy(v, "undo"), r.sentry),
	}
}

func (r *reader) sentry(v api.Json) api.Sentry {
	l := r.texts(v, 3)
	return api.Sentry{On: api.OnAny + r.word(l[0], onWords[:]), Name: l[1], If: l[2]}
}

func (r *reader) pair(v api.Json) [2]string {
	return [2]string(r.texts(v, 2))
}

// object asks that v is one, and has no names but these.
func (r *reader) object(v api.Json, names ...string) {
	for _, name := range r.of(api.Object, v).Names {
		if !slices.Contains(names, name) {
			r.bad = true
		}
	}
}

// texts are the n ones of a list; there are n of them in any case.
func (r *reader) texts(v api.Json, n int) []string {
	l := each(r.of(api.List, v).Items, r.text)
	if len(l) != n {
		r.bad = true
		return make([]string, n)
	}
	return l
}

func (r *reader) text(v api.Json) string {
	return r.of(api.Text, v).Text
}

// word is the number of s among these.
func (r *reader) word(s string, words []string) uint8 {
	i := slices.Index(words, s)
	if i < 0 {
		r.bad = true
		return 0
	}
	return uint8(i)
}

// textBy, listBy and numberBy are what stands by a name; where nothing does, it is empty.
func (r *reader) textBy(v api.Json, name string) string {
	x, is := json.Get(v, name)
	if !is {
		return ""
	}
	return r.text(x)
}

func (r *reader) listBy(v api.Json, name string) []api.Json {
	x, is := json.Get(v, name)
	if !is {
		return nil
	}
	return r.of(api.List, x).Items
}

func (r *reader) numberBy(v api.Json, name string, least, most int64, empty int) int {
	x, is := json.Get(v, name)
	if !is {
		return empty
	}
	n := r.of(api.Int, x).Int
	if n < least || n > most {
		r.bad = true
	}
	return int(n)
}

// of is v, which must be of this Kind; if it is not, it is taken as an empty one.
func (r *reader) of(kind uint8, v api.Json) api.Json {
	if v.Kind != kind {
		r.bad = true
		return api.Json{}
	}
	return v
}
