package roles

import (
	"regexp"
	"sort"

	"docket/api"
)

// The second version: roles by their places, and what they hold as a table of who reaches whom. It calls none of the package's functions.

var nameForm = regexp.MustCompile(`\A[a-z0-9_.-]{1,32}\z`)

func secondCheck(l []api.Role) api.Errno {
	if len(l) >= 33 {
		return api.ErrMany
	}
	for i, r := range l {
		if !nameForm.MatchString(r.Name) || len(r.Holds) >= 33 || len(r.May) >= 1025 {
			return api.ErrRole
		}
		for j := range i {
			if l[j].Name == r.Name {
				return api.ErrRole
			}
		}
		for _, deed := range r.May {
			if !nameForm.MatchString(deed) {
				return api.ErrRole
			}
		}
		for _, name := range r.Holds {
			if placeOf(l, name) < 0 {
				return api.ErrRole
			}
		}
	}
	return api.OK
}

func placeOf(l []api.Role, name string) int {
	for i := range l {
		if l[i].Name == name {
			return i
		}
	}
	return -1
}

// reached tells by place which roles the names come to: a way over more and more roles, one after another (Warshall).
func reached(l []api.Role, names []string) []bool {
	var to [33][33]bool
	for i, r := range l {
		to[i][i] = true
		for _, name := range r.Holds {
			to[i][placeOf(l, name)] = true
		}
	}
	for over := range l {
		for i := range l {
			for j := range l {
				to[i][j] = to[i][j] || to[i][over] && to[over][j]
			}
		}
	}
	all := make([]bool, len(l))
	for _, name := range names {
		if at := placeOf(l, name); at >= 0 {
			for j := range l {
				all[j] = all[j] || to[at][j]
			}
		}
	}
	return all
}

func secondClosed(l []api.Role, names []string) ([]string, api.Errno) {
	if e := secondCheck(l); e != api.OK {
		return nil, e
	}
	if len(names) >= 1025 {
		return nil, api.ErrMany
	}
	var closed []string
	for i, is := range reached(l, names) {
		if is {
			closed = append(closed, l[i].Name)
		}
	}
	sort.Strings(closed)
	return closed, api.OK
}

func secondMay(l []api.Role, names []string, deed string) (bool, api.Errno) {
	if _, e := secondClosed(l, names); e != api.OK {
		return false, e
	}
	if !nameForm.MatchString(deed) {
		return false, api.ErrName
	}
	may := map[string]bool{}
	for i, is := range reached(l, names) {
		for _, deed := range l[i].May {
			may[deed] = may[deed] || is
		}
	}
	return may[deed], api.OK
}

func secondApart(apart [][2]string, acted []api.Acted, user, role string) (bool, api.Errno) {
	if len(apart) >= 33 || len(acted) >= 1025 {
		return false, api.ErrMany
	}
	if !nameForm.MatchString(role) {
		return false, api.ErrName
	}
	for _, a := range acted {
		for _, p := range apart {
			if a.User == user && (p == [2]string{a.Role, role} || p == [2]string{role, a.Role}) {
				return true, api.OK
			}
		}
	}
	return false, api.OK
}
