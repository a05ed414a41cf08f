package pass

import (
	"slices"
	"strings"
	"testing"

	"docket/api"
	"docket/hash"
)

func wantFits(t *testing.T, u api.User, pass string, want bool) {
	t.Helper()
	if is, e := Fits(u, pass); e != api.OK || is != want {
		t.Fatalf("Fits of %+v, %q is %v, %d, not %v", u, pass, is, e, want)
	}
}

func wantNotFits(t *testing.T, u api.User, pass string, want api.Errno) {
	t.Helper()
	if is, e := Fits(u, pass); e != want || is {
		t.Fatalf("Fits of %.200q, %d bytes is %v, %d, not %d", u, len(pass), is, e, want)
	}
}

// wantBadUser asks that a user is told of ahead of any password.
func wantBadUser(t *testing.T, u api.User) {
	t.Helper()
	for _, word := range []string{"secret", "", long(65)} {
		wantNotFits(t, u, word, api.ErrBad)
	}
}

// ann is a user whose password is "secret".
func ann() api.User {
	return api.User{Name: "ann", Salt: "salt", Pass: "c51468593608dd7f69f03da8e318d4f149b6cb6239c4eb1c4b7d470fde0e29f3", Roles: []string{"clerk", "boss"}}
}

func TestFitsNames(t *testing.T) {
	for _, n := range []int{1, 2, api.MaxName} {
		for i := range n {
			for c := range 256 {
				b := []byte(long(n))
				b[i] = byte(c)
				byName, byRole := ann(), ann()
				byName.Name, byRole.Roles[1] = string(b), string(b)
				if isNameOf(string(b)) {
					wantFits(t, byName, "secret", true)
					wantFits(t, byRole, "secret", true)
					continue
				}
				wantBadUser(t, byName)
				wantBadUser(t, byRole)
			}
		}
	}
	for _, name := range []string{"", "Ann", "é", "ann\n", "an n", long(api.MaxName + 1), long(1 << 16)} {
		u := ann()
		u.Name = name
		wantBadUser(t, u)
	}
	wantBadUser(t, api.User{})
}

func TestFitsSalts(t *testing.T) {
	for n := range 67 {
		u := ann()
		u.Salt = long(n)
		if n > 64 {
			wantBadUser(t, u)
			continue
		}
		wantFits(t, u, "secret", false)
		u.Pass = secondDigest(u.Salt, "secret")
		wantFits(t, u, "secret", true)
	}
	u := ann()
	u.Salt = long(1 << 16)
	wantBadUser(t, u)
}

// Each byte at each place of the Pass.
func TestFitsPass(t *testing.T) {
	for i := range 64 {
		for c := range 256 {
			u := ann()
			b := []byte(u.Pass)
			b[i] = byte(c)
			u.Pass = string(b)
			if strings.IndexByte("0123456789abcdef", byte(c)) < 0 {
				wantBadUser(t, u)
				continue
			}
			wantFits(t, u, "secret", u.Pass == ann().Pass)
			wantNotFits(t, u, "", api.ErrPass)
		}
	}
	is := ann().Pass
	for n := range 64 {
		u := ann()
		u.Pass = is[:n]
		wantBadUser(t, u)
	}
	for _, p := range []string{is + "0", "0" + is, is + is, is + " ", is[:62] + "é", is[:63] + "é", strings.ToUpper(is), long(64), strings.Repeat("0", 1<<16)} {
		u := ann()
		u.Pass = p
		wantBadUser(t, u)
	}
	for _, p := range []string{strings.Repeat("0", 64), strings.Repeat("f", 64)} {
		u := ann()
		u.Pass = p
		wantFits(t, u, "secret", false)
	}
}

func TestFitsRoles(t *testing.T) {
	for n := range api.MaxRoles + 3 {
		u := ann()
		u.Roles = numbered(n)
		if n > api.MaxRoles {
			wantBadUser(t, u)
			continue
		}
		wantFits(t, u, "secret", true)
		for i := range n {
			u.Roles = numbered(n)
			u.Roles[i] = "no name"
			wantBadUser(t, u)
			u.Roles[i] = ""
			wantBadUser(t, u)
		}
	}
	u := ann()
	for _, roles := range [][]string{nil, {}, {"a", "a"}, slices.Repeat([]string{"a"}, api.MaxRoles)} {
		u.Roles = roles
		wantFits(t, u, "secret", true)
	}
}

// Two parts that may not be are told as one is.
func TestFitsBadTogether(t *testing.T) {
	spoil := []func(*api.User){
		func(u *api.User) { u.Name = "Ann" },
		func(u *api.User) { u.Salt = long(65) },
		func(u *api.User) { u.Pass = strings.ToUpper(u.Pass) },
		func(u *api.User) { u.Pass = u.Pass[1:] },
		func(u *api.User) { u.Roles = numbered(33) },
		func(u *api.User) { u.Roles = []string{"A"} },
	}
	for _, one := range spoil {
		for _, other := range spoil {
			u := ann()
			one(&u)
			other(&u)
			wantBadUser(t, u)
		}
	}
}

func TestFitsWords(t *testing.T) {
	for n := range 67 {
		u := ann()
		if n < 1 || n > 64 {
			wantNotFits(t, u, long(n), api.ErrPass)
			continue
		}
		wantFits(t, u, long(n), false)
		u.Pass = secondDigest(u.Salt, long(n))
		for k := 1; k <= 64; k++ {
			wantFits(t, u, long(k), k == n)
		}
	}
	wantNotFits(t, ann(), long(1<<16), api.ErrPass)
	for _, word := range []string{"Secret", "secre", "secret ", " secret", "secret\x00", "ecret", "salt", "saltsecret", ann().Pass} {
		wantFits(t, ann(), word, false)
	}
	wantFits(t, ann(), "secret", true)
}

// Where the salt ends and the password begins counts: the two put together are the same text each time.
func TestFitsSplit(t *testing.T) {
	const text = "saltsecret"
	for i := range len(text) {
		u, e := Make("ann", text[:i], text[i:], nil)
		if e != api.OK {
			t.Fatal(e)
		}
		for k := range len(text) {
			u.Salt = text[:k]
			wantFits(t, u, text[k:], k == i)
		}
	}
}

// A seal takes a secret with noughts behind it for the same one, so that such salts have the same digests.
func TestFitsNoughts(t *testing.T) {
	for n := range 61 {
		u := ann()
		u.Salt += strings.Repeat("\x00", n)
		wantFits(t, u, "secret", true)
		u.Salt = "\x00" + u.Salt
		if len(u.Salt) <= 64 {
			wantFits(t, u, "secret", false)
		}
	}
	u, e := Make("ann", "", "secret", nil)
	zero, e2 := Make("ann", "\x00", "secret", nil)
	if e != api.OK || e2 != api.OK || u.Pass != zero.Pass {
		t.Error(u, e, zero, e2)
	}
}

// How many times over a password is sealed counts.
func TestFitsTimes(t *testing.T) {
	for n := 1; n < 12; n++ {
		u := ann()
		text, e := hash.Pass(u.Salt, "secret", n)
		if e != api.OK {
			t.Fatal(e)
		}
		u.Pass = text
		wantFits(t, u, "secret", n == 4)
	}
	u := ann()
	u.Pass = hash.Hex([]byte("secretsecretsecretsecretsecretse"))
	wantFits(t, u, "secret", false)
}
