package pass

import (
	"fmt"
	"math"
	"strconv"
	"strings"
	"testing"

	"docket/api"
	"docket/hash"
)

func wantToken(t *testing.T, secret string, s api.Session) string {
	t.Helper()
	want, _ := secondToken(secret, s)
	token, e := Token(secret, s)
	if e != api.OK || token != want {
		t.Fatalf("Token of %q, %+v is %q, %d, not %q", secret, s, token, e, want)
	}
	return token
}

func wantNotToken(t *testing.T, secret string, s api.Session, want api.Errno) {
	t.Helper()
	token, e := Token(secret, s)
	if e != want || token != "" {
		t.Fatalf("Token of %d bytes, %.100q is %q, %d, not %d", len(secret), fmt.Sprint(s), token, e, want)
	}
}

func wantBadSession(t *testing.T, s api.Session) {
	t.Helper()
	wantNotToken(t, "k", s, api.ErrBad)
	wantNotToken(t, "", s, api.ErrText)
	wantNotToken(t, long(65), s, api.ErrText)
}

// good is a session that may be.
func good() api.Session { return api.Session{Id: 7, User: "ann", Until: 100} }

func TestTokenSecrets(t *testing.T) {
	told := map[string]int{}
	for n := range 67 {
		if n >= 1 && n <= 64 {
			told[wantToken(t, long(n), good())] = n
		} else {
			wantNotToken(t, long(n), good(), api.ErrText)
		}
	}
	for c := range 256 {
		wantToken(t, string([]byte{byte(c)}), good())
		wantToken(t, string([]byte{'k', byte(c), 'k'}), good())
	}
	wantNotToken(t, long(1<<16), good(), api.ErrText)
	if len(told) != 64 {
		t.Errorf("%d secrets of 64 have tokens of their own", len(told))
	}
}

func TestTokenIds(t *testing.T) {
	for _, id := range []int{0, 1, 9, 10, 11, 99, 100, 1 << 15, 1<<31 - 2, 1<<31 - 1} {
		s := good()
		s.Id = id
		if token := wantToken(t, "k", s); !strings.HasPrefix(token, strconv.Itoa(id)+".616e6e.100.") {
			t.Error(token)
		}
	}
	for _, id := range []int{-1, -7, math.MinInt32, math.MinInt64, 1 << 31, 1<<31 + 1, 1 << 32, 1<<32 + 7, math.MaxInt64} {
		s := good()
		s.Id = id
		wantBadSession(t, s)
	}
}

func TestTokenUntils(t *testing.T) {
	for _, until := range []int{0, 1, 9, 10, 1 << 31, 1 << 32, api.MaxClock - 1, api.MaxClock} {
		s := good()
		s.Until = until
		if token := wantToken(t, "k", s); !strings.HasPrefix(token, "7.616e6e."+strconv.Itoa(until)+".") {
			t.Error(token)
		}
	}
	for _, until := range []int{-1, -100, math.MinInt64, api.MaxClock + 1, 1 << 41, math.MaxInt64} {
		s := good()
		s.Until = until
		wantBadSession(t, s)
	}
}

func TestTokenUsers(t *testing.T) {
	for _, n := range []int{1, 2, api.MaxName} {
		for i := range n {
			for c := range 256 {
				b := []byte(long(n))
				b[i] = byte(c)
				s := good()
				s.User = string(b)
				if isNameOf(s.User) {
					wantToken(t, "k", s)
				} else {
					wantBadSession(t, s)
				}
			}
		}
	}
	for _, user := range []string{"", "Ann", "é", "ann\n", "an n", long(api.MaxName + 1), long(1 << 16)} {
		s := good()
		s.User = user
		wantBadSession(t, s)
	}
	wantBadSession(t, api.Session{})
	wantBadSession(t, api.Session{Id: -1, User: "", Until: -1})
}

// The token's bytes, one by one.
func TestTokenBytes(t *testing.T) {
	for _, c := range []struct {
		s     api.Session
		ahead string
	}{
		{good(), "7.616e6e.100"},
		{api.Session{User: "a"}, "0.61.0"},
		{api.Session{Id: 1<<31 - 1, User: "-_.z09", Until: api.MaxClock}, "2147483647.2d5f2e7a3039.1099511627776"},
		{api.Session{Id: 1, User: long(api.MaxName), Until: 2}, "1." + strings.Repeat("70", api.MaxName) + ".2"},
		{api.Session{Id: 10, User: ".", Until: 20}, "10.2e.20"},
	} {
		token := wantToken(t, "k", c.s)
		seal := hash.Sealed([]byte("k"), []byte(c.ahead))
		want := c.ahead + "." + hash.Hex(seal[:])
		if len(token) != len(want) {
			t.Fatalf("%q has %d bytes, not %d", token, len(token), len(want))
		}
		for i := range len(want) {
			if token[i] != want[i] {
				t.Errorf("byte %d of %q is %q, not %q", i, token, token[i], want[i])
			}
		}
	}
	const known = "7.616e6e.100.3bbf6f39d7c78ebb523797e936e802b8f61476b13592b74b0229d6cc59e063b3"
	if token, e := Token("k", good()); e != api.OK || token != known {
		t.Error(token, e)
	}
}
