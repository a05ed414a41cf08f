package roles

import (
	"fmt"
	"slices"
	"strings"
	"testing"

	"docket/api"
)

func wantClosed(t *testing.T, l []api.Role, names []string, want ...string) {
	t.Helper()
	got, e := Closed(l, names)
	if e != api.OK || !slices.Equal(got, want) {
		t.Fatalf("Closed of %.100s of %.300s is %v, %d, not %v", fmt.Sprint(names), fmt.Sprint(l), got, e, want)
	}
}

func wantNotClosed(t *testing.T, l []api.Role, names []string, want api.Errno) {
	t.Helper()
	if got, e := Closed(l, names); e != want || len(got) != 0 {
		t.Fatalf("Closed of %d names of %.300s is %v, %d, not %d", len(names), fmt.Sprint(l), got, e, want)
	}
}

// chain is of n roles: each one holds the next one.
func chain(n int) []api.Role {
	l := many(n)
	for i := range n - 1 {
		l[i].Holds = []string{l[i+1].Name}
	}
	return l
}

func TestClosedExamples(t *testing.T) {
	l := rolesOf("boss: clerk | sign, clerk | check")
	wantClosed(t, l, []string{"boss", "nobody"}, "boss", "clerk")
	wantMay(t, l, "boss", "check", true)
	wantMay(t, l, "clerk", "sign", false)
	wantCheck(t, rolesOf("a: b"), api.ErrRole)
	apart := [][2]string{{"clerk", "boss"}}
	acted := []api.Acted{{User: "ann", Role: "clerk"}}
	wantApartIs(t, apart, acted, "ann", "boss", true)
	wantApartIs(t, apart, acted, "bob", "boss", false)
}

func TestClosedErrors(t *testing.T) {
	fits, tooMany := make([]string, api.MaxItems), make([]string, api.MaxItems+1)
	ok := rolesOf("a: b, b")
	wantClosed(t, ok, fits)
	wantNotClosed(t, ok, tooMany, api.ErrMany)
	wantNotClosed(t, ok, slices.Repeat([]string{"a"}, api.MaxItems+1), api.ErrMany)
	wantNotClosed(t, nil, tooMany, api.ErrMany)
	for _, s := range []string{"a, a", "A", "a: b", "a | A"} {
		for _, names := range [][]string{nil, {"a"}, fits, tooMany} {
			wantNotClosed(t, rolesOf(s), names, api.ErrRole)
		}
	}
	for _, names := range [][]string{nil, {"r0001"}, fits, tooMany} {
		wantNotClosed(t, many(api.MaxRoles+1), names, api.ErrMany)
		wantNotClosed(t, make([]api.Role, api.MaxRoles+1), names, api.ErrMany)
	}
}

func TestClosedNames(t *testing.T) {
	l := rolesOf("boss: clerk, clerk, guest")
	wantClosed(t, nil, nil)
	wantClosed(t, nil, []string{"boss"})
	wantClosed(t, []api.Role{}, []string{"", "boss"})
	wantClosed(t, l, nil)
	wantClosed(t, l, []string{})
	wantClosed(t, l, []string{"clerk"}, "clerk")
	wantClosed(t, l, []string{"boss"}, "boss", "clerk")
	wantClosed(t, l, []string{"clerk", "boss"}, "boss", "clerk")
	wantClosed(t, l, []string{"guest", "boss", "guest", "clerk", "boss"}, "boss", "clerk", "guest")
	wantClosed(t, l, []string{"guest", "guest"}, "guest")
	// Names that no role has come to nothing, whatever bytes they are.
	for _, s := range []string{"", "nobody", "Boss", "bos", "bosss", "boss ", "\xff\x00", "é", strings.Repeat("a", 1<<16)} {
		wantClosed(t, l, []string{s})
		wantClosed(t, l, []string{s, "boss", s}, "boss", "clerk")
		wantClosed(t, l, []string{"boss", s, "guest"}, "boss", "clerk", "guest")
	}
	wantClosed(t, l, append(slices.Repeat([]string{"clerk", "x"}, api.MaxItems/2-1), "x", "boss"), "boss", "clerk")
	wantClosed(t, l, slices.Repeat([]string{"boss"}, api.MaxItems), "boss", "clerk")
	all := many(api.MaxRoles)
	wantClosed(t, all, namesOf(many(api.MaxItems)), namesOf(all)...)
}

func TestClosedRounds(t *testing.T) {
	wantClosed(t, rolesOf("a: a, b"), []string{"a"}, "a")
	wantClosed(t, rolesOf("a: b, b: a, c"), []string{"a"}, "a", "b")
	wantClosed(t, rolesOf("a: b, b: a, c"), []string{"b"}, "a", "b")
	wantClosed(t, rolesOf("a: b, b: c, c: b, d: a"), []string{"a"}, "a", "b", "c")
	wantClosed(t, rolesOf("a: b, b: c, c: b, d: a"), []string{"c"}, "b", "c")
	round := chain(api.MaxRoles)
	round[api.MaxRoles-1].Holds = []string{round[0].Name}
	each := many(api.MaxRoles)
	for i := range each {
		each[i].Holds = namesOf(each)
	}
	for _, r := range round {
		wantClosed(t, round, []string{r.Name}, namesOf(round)...)
		wantClosed(t, each, []string{r.Name}, namesOf(each)...)
	}
}

func TestClosedChains(t *testing.T) {
	l := chain(api.MaxRoles)
	turned := slices.Clone(l)
	slices.Reverse(turned)
	for i, r := range l {
		wantClosed(t, l, []string{r.Name}, namesOf(l)[i:]...)
		wantClosed(t, turned, []string{r.Name}, namesOf(l)[i:]...)
	}
	rhomb := rolesOf("a: b c, b: d, c: d, d: e, e, f: a")
	wantClosed(t, rhomb, []string{"a"}, "a", "b", "c", "d", "e")
	wantClosed(t, rhomb, []string{"b"}, "b", "d", "e")
	wantClosed(t, rhomb, []string{"b", "c"}, "b", "c", "d", "e")
	wantClosed(t, rhomb, []string{"d"}, "d", "e")
	wantClosed(t, rhomb, []string{"e"}, "e")
	wantClosed(t, rhomb, []string{"f"}, "a", "b", "c", "d", "e", "f")
	wantClosed(t, rolesOf("a: b b b, b: c c, c"), []string{"a", "b"}, "a", "b", "c")
	// What a role may is not what it holds.
	wantClosed(t, rolesOf("a | b, b | a"), []string{"a"}, "a")
}

func TestClosedOrder(t *testing.T) {
	want := []string{"-", "-a", ".", ".-", "0", "0a", "9", "_", "a", "a-", "a-b", "a.", "a0", "a_", "aa", "ab", "b", "z", "z-", "zz"}
	backwards := slices.Clone(want)
	slices.Reverse(backwards)
	var l []api.Role
	for _, name := range backwards {
		l = append(l, api.Role{Name: name})
	}
	wantClosed(t, l, want, want...)
	wantClosed(t, l, backwards, want...)
	l[5].Holds = want
	for range 20 {
		wantClosed(t, l, []string{l[5].Name}, want...)
	}
}
