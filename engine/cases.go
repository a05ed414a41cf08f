package engine

import (
	"slices"

	"docket/api"
	"docket/json"
)

// first is a case to which nothing has come yet.
func first(m api.Model, id, version int) api.Case {
	c := api.Case{Id: id, Model: m.Name, Version: version, Open: make([]bool, len(m.Stages)), Done: make([]bool, len(m.Stones))}
	for _, a := range m.Attrs {
		c.Values = append(c.Values, blank(a.Kind))
	}
	return c
}

// blank is what an attribute of a kind is at first.
func blank(kind uint8) api.Json {
	switch kind {
	case api.IsBool:
		return json.Yes(false)
	case api.IsInt:
		return json.Num(0)
	}
	return json.Str("")
}

// twin is the same case in memory of its own.
func twin(c api.Case) api.Case {
	values := make([]api.Json, len(c.Values))
	for i, v := range c.Values {
		values[i] = plain(v)
	}
	c.Values = values
	c.Open, c.Done, c.Acted = slices.Clone(c.Open), slices.Clone(c.Done), slices.Clone(c.Acted)
	return c
}

// plain is an attribute's value without its lists: they have no elements, but may have spare room.
func plain(v api.Json) api.Json {
	return api.Json{Kind: v.Kind, Bool: v.Bool, Int: v.Int, Text: v.Text}
}

// moved takes over what both models have by the same name.
func moved(old, now api.Model, c api.Case, version int) api.Case {
	d := first(now, c.Id, version)
	for i, a := range now.Attrs {
		if at := slices.Index(old.Attrs, a); at >= 0 {
			d.Values[i] = plain(c.Values[at])
		}
	}
	// What a stage stands within is ahead of it, and so moved already.
	for i, s := range now.Stages {
		at := stageAt(old, s.Name)
		d.Open[i] = at >= 0 && c.Open[at] && (s.In < 0 || d.Open[s.In])
	}
	for i, s := range now.Stones {
		at := stoneAt(old, s.Name)
		d.Done[i] = at >= 0 && c.Done[at]
	}
	d.Acted = slices.Clone(c.Acted)
	return d
}
