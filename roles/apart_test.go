package roles

import (
	"fmt"
	"slices"
	"strings"
	"testing"

	"docket/api"
)

func wantApartIs(t *testing.T, apart [][2]string, acted []api.Acted, user, role string, want bool) {
	t.Helper()
	if is, e := Apart(apart, acted, user, role); e != api.OK || is != want {
		t.Fatalf("Apart of %.200s, %.200s for %q as %s is %v, %d, not %v", fmt.Sprint(apart), fmt.Sprint(acted), user, role, is, e, want)
	}
}

func wantNotApart(t *testing.T, apart [][2]string, acted []api.Acted, role string, want api.Errno) {
	t.Helper()
	if is, e := Apart(apart, acted, "ann", role); e != want || is {
		t.Fatalf("Apart of %d pairs and %d acts, as %.40q, is %v, %d, not %d", len(apart), len(acted), role, is, e, want)
	}
}

func TestApartErrors(t *testing.T) {
	pairs, acts := make([][2]string, api.MaxRoles), make([]api.Acted, api.MaxItems)
	morePairs, moreActs := make([][2]string, api.MaxRoles+1), make([]api.Acted, api.MaxItems+1)
	names, bad := []string{"a", "0", ".", strings.Repeat("-", api.MaxName)}, []string{"", "A", "é", "a b", "\xff", strings.Repeat("-", api.MaxName+1)}
	for _, role := range names {
		wantNotApart(t, nil, nil, role, api.OK)
		wantNotApart(t, pairs, acts, role, api.OK)
	}
	for _, role := range bad {
		wantNotApart(t, nil, nil, role, api.ErrName)
		wantNotApart(t, pairs, acts, role, api.ErrName)
		wantNotApart(t, [][2]string{{role, role}}, []api.Acted{{User: "ann", Role: role}}, role, api.ErrName)
	}
	for _, role := range append(names, bad...) {
		wantNotApart(t, morePairs, nil, role, api.ErrMany)
		wantNotApart(t, morePairs, acts, role, api.ErrMany)
		wantNotApart(t, nil, moreActs, role, api.ErrMany)
		wantNotApart(t, pairs, moreActs, role, api.ErrMany)
		wantNotApart(t, morePairs, moreActs, role, api.ErrMany)
	}
	// Even where one of those up to the limits tells.
	full := append(slices.Repeat([][2]string{{"x", "y"}}, api.MaxRoles-1), [2]string{"a", "b"})
	all := append(slices.Repeat([]api.Acted{{User: "eve", Role: "b"}}, api.MaxItems-1), api.Acted{User: "ann", Role: "b"})
	wantApartIs(t, full, all, "ann", "a", true)
	wantNotApart(t, append(full, [2]string{"a", "b"}), all, "a", api.ErrMany)
	wantNotApart(t, full, append(all, api.Acted{User: "ann", Role: "b"}), "a", api.ErrMany)
}

func TestApartPairs(t *testing.T) {
	acted := []api.Acted{{User: "ann", Role: "clerk"}, {User: "bob", Role: "guest"}, {User: "ann", Role: "auditor"}}
	for _, c := range []struct {
		pairs, user, role string
		want              bool
	}{
		{"", "ann", "boss", false},
		{"clerk boss", "ann", "boss", true}, {"boss clerk", "ann", "boss", true},
		{"clerk boss", "ann", "clerk", false}, {"boss clerk", "ann", "clerk", false},
		{"clerk boss", "bob", "boss", false}, {"boss clerk", "bob", "boss", false},
		{"clerk boss", "ann", "guest", false}, {"clerk auditor", "ann", "boss", false}, {"clerk clerk", "ann", "boss", false},
		{"clerk clerk", "ann", "clerk", true}, {"boss boss", "ann", "boss", false}, {"clerk clerk", "bob", "clerk", false},
		{"clerk boss clerk boss", "ann", "boss", true}, {"clerk boss clerk boss", "bob", "boss", false},
		{"clerk guest guest clerk", "bob", "clerk", true}, {"clerk guest guest clerk", "bob", "guest", false}, {"clerk guest", "ann", "guest", true},
		{"x y guest x auditor boss", "ann", "boss", true}, {"x y guest boss", "ann", "boss", false}, {"boss x boss y boss auditor", "ann", "boss", true},
		{"clerk auditor", "ann", "clerk", true}, {"clerk auditor", "ann", "auditor", true},
		{"clerks boss", "ann", "boss", false}, {"clerk bos", "ann", "boss", false}, {"cler boss", "ann", "boss", false},
		// A pair goes no further: who may not be clerk with boss, nor boss with guest, may be clerk with guest.
		{"clerk boss boss guest", "ann", "guest", false},
	} {
		var pairs [][2]string
		f := strings.Fields(c.pairs)
		for i := 0; i < len(f); i += 2 {
			pairs = append(pairs, [2]string{f[i], f[i+1]})
		}
		wantApartIs(t, pairs, acted, c.user, c.role, c.want)
		slices.Reverse(pairs)
		wantApartIs(t, pairs, acted, c.user, c.role, c.want)
	}
}

func TestApartUsers(t *testing.T) {
	users := []string{"", "a", "an", "ann", "Ann", "anna", "\xff", "\xfe", "a\x00", "é", "e\u0301", strings.Repeat("u", 1<<12)}
	apart := [][2]string{{"clerk", "boss"}}
	for _, did := range users {
		for _, user := range users {
			wantApartIs(t, apart, []api.Acted{{User: did, Role: "clerk"}}, user, "boss", did == user)
			wantApartIs(t, apart, []api.Acted{{User: did, Role: "other"}, {User: did, Role: "boss"}, {User: "x", Role: "clerk"}, {User: did, Role: "clerk"}}, user, "boss", did == user)
			wantApartIs(t, apart, []api.Acted{{User: did, Role: "boss"}}, user, "boss", false)
		}
	}
	// A pair may have what is no name, and one may have acted so.
	for _, odd := range []string{"", "A", "é", "\xff"} {
		wantApartIs(t, [][2]string{{odd, "boss"}}, []api.Acted{{User: "ann", Role: odd}}, "ann", "boss", true)
		wantApartIs(t, [][2]string{{"boss", odd}}, []api.Acted{{User: "ann", Role: odd}}, "ann", "boss", true)
		wantApartIs(t, [][2]string{{"boss", odd}}, []api.Acted{{User: "ann", Role: "clerk"}}, "ann", "boss", false)
	}
}
