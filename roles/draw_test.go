package roles

import (
	"fmt"
	"math/rand"
	"strings"

	"docket/api"
)

const draws = 6000

// pool has names that stand close to each other, and begin one another; strange are no names.
var (
	pool    = []string{"a", "a-", "a.", "a0", "a_", "aa", "ab", "b", "b-b", "clerk", "clerks", "-", ".", "0", "9", "_", "z", "zz", strings.Repeat("m", api.MaxName)}
	strange = []string{"", "A", "a b", "é", "a\x00", "\xff", "a,", "a/", "`", "{", ":", strings.Repeat("m", api.MaxName+1)}
)

// drawer draws roles, names and pairs, always the same ones of one seed.
type drawer struct{ *rand.Rand }

func newDrawer(seed int64) drawer { return drawer{rand.New(rand.NewSource(seed))} }

func (r drawer) one(l []string) string { return l[r.Intn(len(l))] }

// some are n of these, any of them, some twice.
func (r drawer) some(l []string, n int) []string {
	var drawn []string
	for range n {
		drawn = append(drawn, r.one(l))
	}
	return drawn
}

// named are n different names.
func (r drawer) named(n int) []string {
	var l []string
	for _, at := range r.Perm(len(pool)) {
		l = append(l, pool[at])
	}
	for i := len(l); i < n; i++ {
		l = append(l, fmt.Sprint("n", i))
	}
	return l[:n]
}

// roles may be: some hold many, most few, so that chains, rounds and islands come about.
func (r drawer) roles() []api.Role {
	n := r.Intn(9)
	if r.Intn(20) == 0 {
		n = api.MaxRoles - r.Intn(3)
	}
	names := r.named(n)
	var l []api.Role
	for _, name := range names {
		x := api.Role{Name: name, Holds: r.some(names, r.Intn(3)), May: r.some(pool, r.Intn(3))}
		if r.Intn(30) == 0 {
			x.Holds, x.May = r.some(names, api.MaxRoles), r.some(pool, api.MaxItems)
		}
		l = append(l, x)
	}
	return l
}

// turned roles may not be, or just so: one thing of them is another one.
func (r drawer) turned(l []api.Role) []api.Role {
	l = deep(l)
	if len(l) == 0 {
		return append(l, api.Role{Name: r.one(strange)})
	}
	x := &l[r.Intn(len(l))]
	switch r.Intn(9) {
	case 0:
		x.Name = r.one(strange)
	case 1:
		x.Name = l[r.Intn(len(l))].Name
	case 2:
		x.Name = "other"
	case 3:
		x.Holds = append(x.Holds, r.one(pool))
	case 4:
		x.Holds = r.some([]string{x.Name}, api.MaxRoles+r.Intn(2))
	case 5:
		x.Holds = append([]string{r.one(strange)}, x.Holds...)
	case 6:
		x.May = r.some(pool, api.MaxItems+r.Intn(2))
	case 7:
		x.May = append(x.May, r.one(strange))
	default:
		for len(l) < api.MaxRoles+r.Intn(2) {
			l = append(l, api.Role{Name: fmt.Sprint("more", len(l))})
		}
	}
	return l
}

// names are such as roles have, and others.
func (r drawer) names(l []api.Role) []string {
	var names []string
	for range r.Intn(5) {
		switch {
		case len(l) > 0 && r.Intn(4) > 0:
			names = append(names, l[r.Intn(len(l))].Name)
		case r.Intn(2) == 0:
			names = append(names, r.one(pool))
		default:
			names = append(names, r.one(strange))
		}
	}
	if r.Intn(100) == 0 {
		names = append(names, r.some(pool, api.MaxItems-len(names)+r.Intn(2))...)
	}
	return names
}

func (r drawer) pairs() [][2]string {
	var l [][2]string
	for range r.Intn(6) {
		l = append(l, [2]string{r.one(pool[:4]), r.one(pool[:4])})
	}
	if r.Intn(10) == 0 {
		l = append(l, [2]string{r.one(strange), r.one(pool)})
	}
	if r.Intn(30) == 0 {
		for n := api.MaxRoles + r.Intn(2); len(l) < n; {
			l = append(l, [2]string{r.one(pool), r.one(pool)})
		}
	}
	return l
}

func (r drawer) acts() []api.Acted {
	var l []api.Acted
	for range r.Intn(6) {
		l = append(l, api.Acted{User: r.user(), Role: r.one(pool[:4])})
	}
	if r.Intn(10) == 0 {
		l = append(l, api.Acted{User: r.user(), Role: r.one(strange)})
	}
	if r.Intn(30) == 0 {
		for n := api.MaxItems + r.Intn(2); len(l) < n; {
			l = append(l, api.Acted{User: r.user(), Role: r.one(pool)})
		}
	}
	return l
}

func (r drawer) user() string { return r.one([]string{"ann", "an", "", "\xff"}) }

// deep is a copy that shares no list.
func deep(l []api.Role) []api.Role {
	l = append([]api.Role(nil), l...)
	for i := range l {
		l[i].Holds, l[i].May = append([]string(nil), l[i].Holds...), append([]string(nil), l[i].May...)
	}
	return l
}
