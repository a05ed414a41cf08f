package roles

import (
	"maps"
	"slices"

	"docket/api"
)

// set is a set of names.
type set map[string]struct{}

func (s set) has(name string) bool {
	_, is := s[name]
	return is
}

func (s set) put(name string) { s[name] = struct{}{} }

// closed is the set of the roles that names come to.
func closed(l []api.Role, names []string) (set, api.Errno) {
	if e := Check(l); e != api.OK {
		return nil, e
	}
	if len(names) > api.MaxItems {
		return nil, api.ErrMany
	}
	return comeTo(held(l), names), api.OK
}

// held has for each role, by its name, the set of those that it holds itself.
func held(l []api.Role) map[string]set {
	holds := make(map[string]set, len(l))
	for _, r := range l {
		within := set{}
		for _, name := range r.Holds {
			within.put(name)
		}
		holds[r.Name] = within
	}
	return holds
}

// comeTo goes by a list of names that wait to be looked at. What a role holds is laid on it once, so that roles which hold one another in a round come to an end.
func comeTo(holds map[string]set, names []string) set {
	found := set{}
	waiting := slices.Clone(names)
	for len(waiting) > 0 {
		last := len(waiting) - 1
		name := waiting[last]
		waiting = waiting[:last]
		within, is := holds[name]
		if !is || found.has(name) {
			continue
		}
		found.put(name)
		waiting = slices.AppendSeq(waiting, maps.Keys(within))
	}
	return found
}
