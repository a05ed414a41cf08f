package model

import (
	"docket/api"
	"docket/json"
)

// The words for what attributes are, from api.IsBool on, and for what sentries wait for, from api.OnAny on.
var (
	kindWords = [...]string{"bool", "int", "text"}
	onWords   = [...]string{"any", "event", "opened", "closed", "done", "undone"}
)

// field is a value by its name in an object.
type field struct {
	name string
	v    api.Json
}

func object(l ...field) api.Json {
	return api.Json{
		Kind:  api.Object,
		Names: each(l, func(f field) string { return f.name }),
		Items: each(l, func(f field) api.Json { return f.v }),
	}
}

func modelValue(m api.Model) api.Json {
	return object(
		field{"name", json.Str(m.Name)},
		field{"attrs", json.Rows(each(m.Attrs, attrValue))},
		field{"events", json.Rows(each(m.Events, json.Str))},
		field{"stages", json.Rows(each(m.Stages, stageValue))},
		field{"stones", json.Rows(each(m.Stones, stoneValue))},
		field{"apart", json.Rows(each(m.Apart, pairValue))},
	)
}

func attrValue(a api.Attr) api.Json {
	return textsValue(a.Name, kindWords[a.Kind-api.IsBool])
}

func stageValue(s api.Stage) api.Json {
	return object(
		field{"name", json.Str(s.Name)},
		field{"in", json.Num(int64(s.In))},
		field{"opens", json.Rows(each(s.Opens, sentryValue))},
		field{"closes", json.Rows(each(s.Closes, sentryValue))},
		field{"role", json.Str(s.Role)},
		field{"after", json.Num(int64(s.After))},
		field{"event", json.Str(s.Event)},
	)
}

func stoneValue(s api.Stone) api.Json {
	return object(
		field{"name", json.Str(s.Name)},
		field{"done", json.Rows(each(s.Done, sentryValue))},
		field{"undo", json.Rows(each(s.Undo, sentryValue))},
	)
}

func sentryValue(s api.Sentry) api.Json {
	return textsValue(onWords[s.On], s.Name, s.If)
}

func pairValue(pair [2]string) api.Json {
	return textsValue(pair[:]...)
}

func textsValue(l ...string) api.Json {
	return json.Rows(each(l, json.Str))
}
