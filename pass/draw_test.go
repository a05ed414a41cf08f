package pass

import (
	"math"
	"math/rand"
	"strings"

	"docket/api"
)

const draws = 6000

// The lists have edges, and texts that stand close to each other; strange are no names.
var (
	pool    = []string{"a", "b", "ann", "ann.", "bob", "-", "_", ".", "0", "9", "00", "7", "z", "clerk", "boss", "jklmno", strings.Repeat("p", api.MaxName)}
	strange = []string{"", "A", "an n", "é", "a\x00", "\xff", "a,", "`", "{", ":", "/", strings.Repeat("p", api.MaxName+1)}
	secrets = []string{"k", "j", "K", "kk", "k.", "secret", "salt", "\x00", "\xff\xfe", "é", strings.Repeat("k", 63), strings.Repeat("k", 64)}
	no      = []string{"", strings.Repeat("k", 65), strings.Repeat("k", 200)}
	ids     = []int{0, 1, 7, 9, 10, 99, 100, 1 << 16, 1<<31 - 2, 1<<31 - 1}
	untils  = []int{0, 1, 9, 10, 100, 101, 1 << 31, 1 << 32, api.MaxClock - 1, api.MaxClock}
	wild    = []int{-1, math.MinInt64, math.MaxInt64, api.MaxClock + 1, math.MinInt32}
)

type drawer struct{ *rand.Rand }

func newDrawer(seed int64) drawer { return drawer{rand.New(rand.NewSource(seed))} }

// in tells one time out of n.
func (r drawer) in(n int) bool { return r.Intn(n) == 0 }

func (r drawer) one(l []string) string { return l[r.Intn(len(l))] }

// bytes are up to most bytes of any kind.
func (r drawer) bytes(least, most int) string {
	b := make([]byte, least+r.Intn(most-least+1))
	for i := range b {
		b[i] = byte(r.Intn(256))
	}
	return string(b)
}

func (r drawer) name() string {
	if r.in(2) {
		return r.one(pool)
	}
	const may = "abcdefghijklmnopqrstuvwxyz0123456789-_."
	b := make([]byte, 1+r.Intn(api.MaxName))
	for i := range b {
		b[i] = may[r.Intn(len(may))]
	}
	return string(b)
}

func (r drawer) secret() string {
	if r.in(2) {
		return r.one(secrets)
	}
	return r.bytes(1, 64)
}

func (r drawer) salt() string {
	if r.in(4) {
		return ""
	}
	return r.secret()
}

func (r drawer) roles() []string {
	var l []string
	for range r.Intn(api.MaxRoles + 1) {
		l = append(l, r.name())
	}
	return l
}

func (r drawer) number(l []int, top int) int {
	if r.in(2) {
		return l[r.Intn(len(l))]
	}
	return r.Intn(top + 1)
}

func (r drawer) clock() int { return r.number(untils, api.MaxClock) }

func (r drawer) session() api.Session {
	return api.Session{Id: r.number(ids, math.MaxInt32), User: r.name(), Until: r.clock()}
}

// user is one that may be; whose password it is, if any, is up to who draws it.
func (r drawer) user() (api.User, string) {
	word := r.secret()
	u := api.User{Name: r.name(), Salt: r.salt(), Roles: r.roles()}
	u.Pass = secondDigest(u.Salt, word)
	return u, word
}

// turnedUser is one of which a part or two may not be.
func (r drawer) turnedUser(u api.User) api.User {
	for range 1 + r.Intn(2) {
		switch r.Intn(6) {
		case 0:
			u.Name = r.one(strange)
		case 1:
			u.Salt = strings.Repeat("s", 60+r.Intn(10))
		case 2:
			u.Pass = u.Pass[:r.Intn(len(u.Pass))]
		case 3:
			b := []byte(u.Pass + " ")
			b[r.Intn(len(b))] = byte(r.Intn(256))
			u.Pass = string(b[:len(b)-1])
		case 4:
			for range r.Intn(api.MaxRoles) {
				u.Roles = append(u.Roles, "more")
			}
		default:
			u.Roles = append([]string{r.one(strange)}, u.Roles...)
		}
		// The next turn needs a byte to turn.
		if u.Pass == "" {
			u.Pass = "0"
		}
	}
	return u
}

func (r drawer) turnedSession(s api.Session) api.Session {
	switch r.Intn(3) {
	case 0:
		s.Id = append([]int{1 << 31}, wild...)[r.Intn(len(wild)+1)]
	case 1:
		s.User = r.one(strange)
	default:
		s.Until = wild[r.Intn(len(wild))]
		if s.Until == math.MinInt32 {
			s.Until = -2
		}
	}
	return s
}

// turnedToken is a token on which someone wrote, sealed anew half of the time.
func (r drawer) turnedToken(token, secret string) string {
	text, seal := token[:len(token)-65], token[len(token)-65:]
	for range r.Intn(3) {
		i, j := r.Intn(len(text)+1), r.Intn(len(text)+1)
		i, j = min(i, j), max(i, j)
		switch r.Intn(5) {
		case 0:
			text = text[:i] + text[j:]
		case 1:
			text = text[:j] + text[i:]
		case 2:
			text = text[:i] + r.one([]string{"0", "1", "9", ".", "6", "61", "a", "F", "-", "+", "\x00", "\xff"}) + text[i:]
		case 3:
			text = text[:i] + strings.ToUpper(text[i:j]) + text[j:]
		default:
			text = "0" + text
		}
	}
	if r.in(2) {
		return text + seal
	}
	return text + "." + secondSeal(secret, text)
}
