package roles

import (
	"fmt"
	"slices"
	"strings"
	"testing"

	"docket/api"
)

// rolesOf are the roles that a line tells: each one's name, what it holds behind a colon, what it may behind a bar; a comma between each two.
func rolesOf(text string) []api.Role {
	var l []api.Role
	for _, s := range strings.Split(text, ",") {
		if strings.TrimSpace(s) == "" {
			continue
		}
		s, may, _ := strings.Cut(s, "|")
		name, holds, _ := strings.Cut(s, ":")
		l = append(l, api.Role{Name: strings.TrimSpace(name), Holds: strings.Fields(holds), May: strings.Fields(may)})
	}
	return l
}

// many are n roles that may be; the next one's name stands behind the last one's.
func many(n int) []api.Role {
	var l []api.Role
	for i := range n {
		l = append(l, api.Role{Name: fmt.Sprintf("r%04d", i)})
	}
	return l
}

func namesOf(l []api.Role) []string {
	var names []string
	for _, r := range l {
		names = append(names, r.Name)
	}
	return names
}

func wantCheck(t *testing.T, l []api.Role, want api.Errno) {
	t.Helper()
	if e := Check(l); e != want {
		t.Fatalf("Check of %.300s tells %d, not %d", fmt.Sprint(l), e, want)
	}
}

func TestCheckHowMany(t *testing.T) {
	wantCheck(t, nil, api.OK)
	wantCheck(t, []api.Role{}, api.OK)
	wantCheck(t, many(1), api.OK)
	wantCheck(t, many(api.MaxRoles), api.OK)
	wantCheck(t, many(api.MaxRoles+1), api.ErrMany)
	wantCheck(t, many(1<<12), api.ErrMany)
	// ErrMany stands ahead of ErrRole, whatever may not be.
	for _, bad := range []api.Role{{}, {Name: "r0001"}, {Name: "A"}, {Name: "a", Holds: []string{"b"}}, {Name: "a", May: []string{""}}} {
		wantCheck(t, append(many(api.MaxRoles-1), bad), api.ErrRole)
		wantCheck(t, append(many(api.MaxRoles), bad), api.ErrMany)
		wantCheck(t, append([]api.Role{bad}, many(api.MaxRoles-1)...), api.ErrRole)
		wantCheck(t, append([]api.Role{bad}, many(api.MaxRoles)...), api.ErrMany)
	}
	wantCheck(t, make([]api.Role, api.MaxRoles), api.ErrRole)
	wantCheck(t, make([]api.Role, api.MaxRoles+1), api.ErrMany)
}

func TestCheckNames(t *testing.T) {
	wantCheck(t, rolesOf("boss: clerk | sign, clerk | check"), api.OK)
	wantCheck(t, []api.Role{{Name: ""}}, api.ErrRole)
	for _, c := range []byte("az09-_.") {
		wantCheck(t, []api.Role{{Name: strings.Repeat(string(c), api.MaxName)}}, api.OK)
		wantCheck(t, []api.Role{{Name: strings.Repeat(string(c), api.MaxName+1)}}, api.ErrRole)
	}
	for c := range 256 {
		want := api.ErrRole
		if strings.ContainsRune("abcdefghijklmnopqrstuvwxyz0123456789-_.", rune(c)) {
			want = api.OK
		}
		b := string([]byte{byte(c)})
		for _, name := range []string{b, b + "x", "x" + b, "x" + b + "x", strings.Repeat("x", api.MaxName-1) + b} {
			wantCheck(t, []api.Role{{Name: name}}, want)
			wantCheck(t, append(many(4), api.Role{Name: name}), want)
			wantCheck(t, []api.Role{{Name: "a"}, {Name: "b", May: []string{"x", name}}}, want)
		}
	}
	for _, name := range []string{"é", "a b", " a", "a ", "a\n", "a,b", "日"} {
		wantCheck(t, []api.Role{{Name: name}}, api.ErrRole)
		wantCheck(t, append([]api.Role{{Name: name}}, many(2)...), api.ErrRole)
	}
}

func TestCheckTwice(t *testing.T) {
	for _, s := range []string{"a, a", "a, b, b", "a, a, b", "a, b, c, a", "a: b, b: a, a", "a | x, b, a | y"} {
		wantCheck(t, rolesOf(s), api.ErrRole)
	}
	for _, s := range []string{"a, aa", "a, b, ab", "a, a-, a_, a., a0"} {
		wantCheck(t, rolesOf(s), api.OK)
	}
	l := many(api.MaxRoles)
	l[len(l)-1].Name = l[0].Name
	wantCheck(t, l, api.ErrRole)
}

func TestCheckHolds(t *testing.T) {
	for s, want := range map[string]api.Errno{
		"a: b": api.ErrRole, "a: b, c": api.ErrRole, "a: a": api.OK, "a: b, b": api.OK, "b, a: b": api.OK, "a: b b, b": api.OK, "a: b, b: a": api.OK,
		"a: b, b: c, c: a": api.OK, "a: b c, b: d, c: d, d": api.OK, "a: b c, b": api.ErrRole, "a: c b, b": api.ErrRole, "a, b: a, c: b, d: e": api.ErrRole, "a: A, b": api.ErrRole,
	} {
		wantCheck(t, rolesOf(s), want)
	}
	for _, name := range []string{"", "other", "A", "é"} {
		wantCheck(t, []api.Role{{Name: "a", Holds: []string{name}}}, api.ErrRole)
		wantCheck(t, []api.Role{{Name: "a"}, {Name: "b", Holds: []string{"a", "b", name}}}, api.ErrRole)
	}
	// What a role may is no role.
	wantCheck(t, rolesOf("a: sign | sign"), api.ErrRole)
	for _, at := range []int{0, api.MaxRoles - 1} {
		l := many(api.MaxRoles)
		l[at].Holds = namesOf(l)
		wantCheck(t, l, api.OK)
		l[at].Holds[api.MaxRoles-1] = "other"
		wantCheck(t, l, api.ErrRole)
		l[at].Holds = append(namesOf(l), l[0].Name)
		wantCheck(t, l, api.ErrRole)
		l[at].Holds = slices.Repeat([]string{l[at].Name}, api.MaxRoles)
		wantCheck(t, l, api.OK)
		l[at].Holds = slices.Repeat([]string{l[at].Name}, api.MaxRoles+1)
		wantCheck(t, l, api.ErrRole)
	}
	l := many(api.MaxRoles)
	for i := range l {
		l[i].Holds = namesOf(l)
	}
	wantCheck(t, l, api.OK)
}

func TestCheckMay(t *testing.T) {
	wantCheck(t, []api.Role{{Name: "a", May: []string{}}}, api.OK)
	wantCheck(t, rolesOf("a | sign sign, b | sign a b"), api.OK)
	for _, bad := range []string{"", "A", "a b", "é", strings.Repeat("a", api.MaxName+1)} {
		wantCheck(t, []api.Role{{Name: "a", May: []string{bad}}}, api.ErrRole)
		wantCheck(t, []api.Role{{Name: "a", May: []string{"x", bad, "y"}}, {Name: "b"}}, api.ErrRole)
		wantCheck(t, []api.Role{{Name: "a"}, {Name: "b", May: []string{"x", "y", bad}}}, api.ErrRole)
	}
	for _, at := range []int{0, 1, 4} {
		l := many(5)
		l[at].May = namesOf(many(api.MaxItems))
		wantCheck(t, l, api.OK)
		l[at].May = namesOf(many(api.MaxItems + 1))
		wantCheck(t, l, api.ErrRole)
		l[at].May = slices.Repeat([]string{"x"}, api.MaxItems)
		wantCheck(t, l, api.OK)
		l[at].May[api.MaxItems-1] = ""
		wantCheck(t, l, api.ErrRole)
		l[at].May = slices.Repeat([]string{"x"}, api.MaxItems+1)
		wantCheck(t, l, api.ErrRole)
	}
}
