package roles

import (
	"fmt"
	"slices"
	"strings"
	"testing"

	"docket/api"
)

// wantMay takes names with blanks between them.
func wantMay(t *testing.T, l []api.Role, names, deed string, want bool) {
	t.Helper()
	if is, e := May(l, strings.Fields(names), deed); e != api.OK || is != want {
		t.Fatalf("May of %s by %.300s of %.300s is %v, %d, not %v", deed, names, fmt.Sprint(l), is, e, want)
	}
}

func wantMayNot(t *testing.T, l []api.Role, names []string, deed string, want api.Errno) {
	t.Helper()
	if is, e := May(l, names, deed); e != want || is {
		t.Fatalf("May of %.40q by %d names of %.300s is %v, %d, not %d", deed, len(names), fmt.Sprint(l), is, e, want)
	}
}

func TestMayErrors(t *testing.T) {
	ok := rolesOf("a: b | sign, b | check")
	fits, tooMany := make([]string, api.MaxItems), make([]string, api.MaxItems+1)
	for _, deed := range []string{"", "A", "a b", "é", "sign ", "sign\x00", strings.Repeat("a", api.MaxName+1)} {
		for _, names := range [][]string{nil, {"a"}, {""}, fits} {
			wantMayNot(t, ok, names, deed, api.ErrName)
			wantMayNot(t, nil, names, deed, api.ErrName)
			wantMayNot(t, rolesOf("a: c"), names, deed, api.ErrRole)
			wantMayNot(t, many(api.MaxRoles+1), names, deed, api.ErrMany)
		}
		wantMayNot(t, ok, tooMany, deed, api.ErrMany)
		wantMayNot(t, rolesOf("a: c"), tooMany, deed, api.ErrRole)
		wantMayNot(t, many(api.MaxRoles+1), tooMany, deed, api.ErrMany)
	}
	wantMayNot(t, ok, append(tooMany, "a"), "sign", api.ErrMany)
	wantMayNot(t, rolesOf("a | sign, a"), []string{"a"}, "sign", api.ErrRole)
	wantMayNot(t, append(many(api.MaxRoles), ok...), []string{"a"}, "sign", api.ErrMany)
	fits[api.MaxItems-1] = "a"
	if is, e := May(ok, fits, "sign"); !is || e != api.OK {
		t.Error(is, e)
	}
}

func TestMayHeld(t *testing.T) {
	l := rolesOf("boss: clerk | sign, clerk: guest | check sign, guest | look, other | wait")
	for names, deeds := range map[string]string{
		"boss": "sign check look", "clerk": "check sign look", "guest": "look", "other": "wait", "guest other": "look wait", "nobody": "", "": "",
		"nobody other other": "wait", "boss guest": "sign check look", "other boss": "sign check look wait",
	} {
		for _, deed := range []string{"sign", "check", "look", "wait", "boss", "clerk", "guest", "sig", "signs", "x"} {
			wantMay(t, l, names, deed, slices.Contains(strings.Fields(deeds), deed))
		}
	}
	wantMay(t, nil, "boss", "sign", false)
	wantMay(t, nil, "", "sign", false)
	wantMay(t, rolesOf("a, b"), "a b", "a", false)
	// By a round, each may what the others may.
	round := rolesOf("a: b | x, b: c | y, c: a | z, d | w")
	for _, name := range []string{"a", "b", "c"} {
		for _, deed := range []string{"x", "y", "z"} {
			wantMay(t, round, name, deed, true)
		}
		wantMay(t, round, name, "w", false)
		wantMay(t, round, "d", "x", false)
	}
}

func TestMayDepths(t *testing.T) {
	l := chain(api.MaxRoles)
	for i := range l {
		l[i].May = []string{"other", fmt.Sprint("deed", i)}
	}
	for i := range l {
		for j := range l {
			wantMay(t, l, l[i].Name, fmt.Sprint("deed", j), i <= j)
		}
	}
	l = []api.Role{{Name: "a", May: namesOf(many(api.MaxItems))}}
	wantMay(t, l, "a", "r0000", true)
	wantMay(t, l, "a", "r1023", true)
	wantMay(t, l, "a", "r1024", false)
	long := strings.Repeat("z", api.MaxName)
	l[0].May[7] = long
	wantMay(t, l, "a", long, true)
	wantMay(t, l, "a", long[1:], false)
}
