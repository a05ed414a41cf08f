package pass

import (
	"fmt"
	"reflect"
	"slices"
	"strings"
	"testing"

	"docket/api"
)

// long is a text of n times the same byte.
func long(n int) string { return strings.Repeat("p", n) }

// numbered are n names, each another one.
func numbered(n int) []string {
	var l []string
	for i := range n {
		l = append(l, fmt.Sprintf("role-%d", i))
	}
	return l
}

func isNameOf(s string) bool { return nameForm.MatchString(s) }

// sameUser takes a list without elements for one that is nil.
func sameUser(a, b api.User) bool {
	return a.Name == b.Name && a.Salt == b.Salt && a.Pass == b.Pass && slices.Equal(a.Roles, b.Roles)
}

func wantMake(t *testing.T, name, salt, pass string, roles []string) api.User {
	t.Helper()
	want := api.User{Name: name, Salt: salt, Pass: secondDigest(salt, pass), Roles: roles}
	u, e := Make(name, salt, pass, roles)
	if e != api.OK || !sameUser(u, want) {
		t.Fatalf("Make of %q, %q, %q, %q is %+v, %d, not %+v", name, salt, pass, roles, u, e, want)
	}
	return u
}

func wantNotMake(t *testing.T, name, salt, pass string, roles []string, want api.Errno) {
	t.Helper()
	u, e := Make(name, salt, pass, roles)
	if e != want || !reflect.DeepEqual(u, api.User{}) {
		t.Fatalf("Make of %.50q, %d bytes, %d bytes, %d roles is %+v, %d, not %d", name, len(salt), len(pass), len(roles), u, e, want)
	}
}

// What each part of Make's is, and what is told of it alone: of any of them together the first one counts.
func TestMakeErrors(t *testing.T) {
	type part[T any] struct {
		is T
		e  api.Errno
	}
	names := []part[string]{{"ann", api.OK}, {"", api.ErrName}, {"Ann", api.ErrName}, {long(33), api.ErrName}, {long(1 << 16), api.ErrName}}
	salts := []part[string]{{"", api.OK}, {long(64), api.OK}, {long(65), api.ErrText}, {long(1 << 16), api.ErrText}}
	words := []part[string]{{"x", api.OK}, {long(64), api.OK}, {"", api.ErrPass}, {long(65), api.ErrPass}, {long(1 << 16), api.ErrPass}}
	lists := []part[[]string]{{nil, api.OK}, {[]string{}, api.OK}, {numbered(32), api.OK}, {numbered(33), api.ErrMany}, {append(numbered(32), ""), api.ErrMany}, {make([]string, 33), api.ErrMany}, {make([]string, 1<<12), api.ErrMany}, {append([]string{"A"}, numbered(32)...), api.ErrMany}, {make([]string, 32), api.ErrName}, {append(numbered(31), "A"), api.ErrName}, {[]string{""}, api.ErrName}}
	for _, name := range names {
		for _, salt := range salts {
			for _, word := range words {
				for _, roles := range lists {
					e := api.OK
					for _, next := range []api.Errno{name.e, salt.e, word.e, roles.e} {
						if e == api.OK {
							e = next
						}
					}
					if e == api.OK {
						wantMake(t, name.is, salt.is, word.is, roles.is)
					} else {
						wantNotMake(t, name.is, salt.is, word.is, roles.is, e)
					}
				}
			}
		}
	}
}

// Each byte at each place of a name, as a user's and as a role's.
func TestMakeNames(t *testing.T) {
	for _, n := range []int{1, 2, api.MaxName} {
		for i := range n {
			for c := range 256 {
				b := []byte(long(n))
				b[i] = byte(c)
				name := string(b)
				if isNameOf(name) {
					wantMake(t, name, "", "x", nil)
					wantMake(t, "a", "", "x", []string{name})
					continue
				}
				wantNotMake(t, name, "", "x", nil, api.ErrName)
				wantNotMake(t, "a", "", "x", []string{name}, api.ErrName)
			}
		}
	}
	for _, c := range "abcdefghijklmnopqrstuvwxyz0123456789-_." {
		wantMake(t, string(c), "", "x", []string{string(c)})
	}
	for _, name := range []string{"", "é", "\u00ad", "a\n", "\na", "a b", "A", "\x00", long(api.MaxName + 1), long(api.MaxName) + "A"} {
		wantNotMake(t, name, "", "x", nil, api.ErrName)
		wantNotMake(t, "a", "", "x", []string{name}, api.ErrName)
	}
}

func TestMakeTexts(t *testing.T) {
	for n := range 67 {
		if n <= 64 {
			wantMake(t, "ann", long(n), "x", nil)
		} else {
			wantNotMake(t, "ann", long(n), "x", nil, api.ErrText)
		}
		if n >= 1 && n <= 64 {
			wantMake(t, "ann", "s", long(n), nil)
		} else {
			wantNotMake(t, "ann", "s", long(n), nil, api.ErrPass)
		}
	}
	// Salts and passwords are any bytes.
	for c := range 256 {
		wantMake(t, "ann", string([]byte{byte(c)}), string([]byte{byte(c), 'x'}), nil)
		wantMake(t, "ann", string([]byte{'x', byte(c)}), string([]byte{byte(c)}), nil)
	}
	wantMake(t, "ann", "\xff\xfe é\n", "\x00", nil)
}

func TestMakeRoles(t *testing.T) {
	all := numbered(api.MaxRoles)
	for n := range api.MaxRoles + 1 {
		wantMake(t, "ann", "s", "x", all[:n])
		for i := range n {
			l := slices.Clone(all[:n])
			l[i] = "no name"
			wantNotMake(t, "ann", "s", "x", l, api.ErrName)
			l[i] = ""
			wantNotMake(t, "ann", "s", "x", l, api.ErrName)
		}
	}
	for i := range api.MaxRoles + 1 {
		l := numbered(api.MaxRoles + 1)
		wantNotMake(t, "ann", "s", "x", l, api.ErrMany)
		l[i] = "no name"
		wantNotMake(t, "ann", "s", "x", l, api.ErrMany)
	}
	// They stay in their order; the same one may be named twice.
	wantMake(t, "ann", "s", "x", []string{"clerk", "boss", "clerk", "ann", "clerk"})
	wantMake(t, "ann", "s", "x", slices.Repeat([]string{"a"}, api.MaxRoles))
}

func TestMakeUser(t *testing.T) {
	u, e := Make("ann", "salt", "secret", []string{"clerk", "boss"})
	want := api.User{Name: "ann", Salt: "salt", Pass: "c51468593608dd7f69f03da8e318d4f149b6cb6239c4eb1c4b7d470fde0e29f3", Roles: []string{"clerk", "boss"}}
	if e != api.OK || !reflect.DeepEqual(u, want) {
		t.Errorf("Make is %+v, %d, not %+v", u, e, want)
	}
	for n := range 65 {
		u, _ := Make("ann", long(n), long(64-n/2), nil)
		if !passForm.MatchString(u.Pass) {
			t.Errorf("the digest is %q", u.Pass)
		}
	}
}
