package json

import (
	"unicode/utf8"

	"docket/api"
)

// refused tells what is wrong with a value at a depth, or else with the first of its items that is not well.
func refused(v api.Json, depth int) api.Errno {
	if e := refusedAlone(v, depth); e != api.OK {
		return e
	}
	for _, x := range v.Items {
		if e := refused(x, depth+1); e != api.OK {
			return e
		}
	}
	return api.OK
}

// refusedAlone tells what is wrong with a value, whatever its items are.
func refusedAlone(v api.Json, depth int) api.Errno {
	switch {
	case !hasForm(v):
		return api.ErrBad
	case v.Kind == api.Text && !isText(v.Text):
		return api.ErrText
	case (v.Kind == api.List || v.Kind == api.Object) && depth > api.MaxDepth:
		return api.ErrDepth
	case len(v.Items) > api.MaxItems:
		return api.ErrMany
	}
	return refusedNames(v.Names)
}

// hasForm tells whether v has what its Kind asks for, and nothing else: it empties the Kind's own fields, of which nothing may be left then.
func hasForm(v api.Json) bool {
	switch v.Kind {
	case api.Null:
	case api.Bool:
		v.Bool = false
	case api.Int:
		v.Int = 0
	case api.Number:
		if !isOtherNumber(v.Text) {
			return false
		}
		v.Text = ""
	case api.Text:
		v.Text = ""
	case api.List:
		v.Items = nil
	case api.Object:
		if len(v.Names) != len(v.Items) {
			return false
		}
		v.Names, v.Items = nil, nil
	default:
		return false
	}
	return !v.Bool && v.Int == 0 && v.Text == "" && len(v.Names) == 0 && len(v.Items) == 0
}

// isOtherNumber tells whether s is a number that is no integer.
func isOtherNumber(s string) bool {
	if len(s) > api.MaxText {
		return false
	}
	r := reader{text: s}
	v := r.number()
	return r.fault == api.OK && r.at == len(s) && v.Kind == api.Number
}

func isText(s string) bool {
	return len(s) <= api.MaxText && utf8.ValidString(s)
}

func refusedNames(names []string) api.Errno {
	seen := map[string]struct{}{}
	for _, name := range names {
		if !isText(name) {
			return api.ErrText
		}
		if _, is := seen[name]; is {
			return api.ErrBad
		}
		seen[name] = struct{}{}
	}
	return api.OK
}
