package pass

import (
	"fmt"
	"slices"
	"strings"
	"testing"
	"unsafe"

	"docket/api"
)

// The chapter's examples.
func TestExamples(t *testing.T) {
	u, e := Make("ann", "s", "secret", nil)
	if e != api.OK || u.Pass != "e0c3fd582a62c95ea0338cea197c9108dcef3be0b0939b0ed6ba36958b4dce0b" || len(u.Roles) != 0 {
		t.Fatal(u, e)
	}
	wantFits(t, u, "secret", true)
	wantFits(t, u, "other", false)
	s := api.Session{Id: 7, User: "ann", Until: 100}
	token, e := Token("k", s)
	if e != api.OK || !strings.HasPrefix(token, "7.616e6e.100.") || !passForm.MatchString(token[len("7.616e6e.100."):]) {
		t.Fatal(token, e)
	}
	wantRead(t, "k", token, 100, s)
	wantNotRead(t, "k", token, 101, api.ErrLate)
	wantNotRead(t, "j", token, 100, api.ErrToken)
}

// Fits of Make's user is true of that password, and of another one just if their digests are the same.
func TestFitsFollows(t *testing.T) {
	r := newDrawer(1)
	same := 0
	for range draws {
		name, salt, word, roles := r.name(), r.salt(), r.secret(), r.roles()
		u, e := Make(name, salt, word, roles)
		if e != api.OK || u.Name != name || u.Salt != salt || !passForm.MatchString(u.Pass) || !slices.Equal(u.Roles, roles) {
			t.Fatalf("Make of %q, %q, %q, %q is %+v, %d", name, salt, word, roles, u, e)
		}
		wantFits(t, u, word, true)
		for range 4 {
			other := r.secret()
			if r.in(4) {
				other = word
			}
			o, e := Make(r.name(), salt, other, nil)
			if e != api.OK {
				t.Fatal(o, e)
			}
			wantFits(t, u, other, o.Pass == u.Pass)
			wantFits(t, o, word, o.Pass == u.Pass)
			if (o.Pass == u.Pass) != (other == word) {
				t.Fatalf("%q and %q with the salt %q: %s, %s", other, word, salt, o.Pass, u.Pass)
			}
			if other == word {
				same++
			}
		}
	}
	if same < draws {
		t.Errorf("the same password was tried %d times", same)
	}
}

// Read of Token is the session up to its Until.
func TestReadFollows(t *testing.T) {
	r := newDrawer(2)
	late, held := 0, 0
	for range draws {
		secret, s := r.secret(), r.session()
		token, e := Token(secret, s)
		if e != api.OK {
			t.Fatal(s, e)
		}
		wantRead(t, secret, token, 0, s)
		wantRead(t, secret, token, s.Until, s)
		if s.Until < api.MaxClock {
			wantNotRead(t, secret, token, s.Until+1, api.ErrLate)
		}
		for range 4 {
			clock := r.clock()
			if clock > s.Until {
				late++
				wantNotRead(t, secret, token, clock, api.ErrLate)
			} else {
				held++
				wantRead(t, secret, token, clock, s)
			}
		}
		other := r.secret()
		if strings.TrimRight(other, "\x00") != strings.TrimRight(secret, "\x00") {
			wantNotRead(t, other, token, 0, api.ErrToken)
		}
	}
	if late < draws/2 || held < draws/2 {
		t.Errorf("%d late, %d held", late, held)
	}
}

// What Read takes is what Token makes, and of each session there is just one text.
func TestOneText(t *testing.T) {
	r := newDrawer(3)
	taken := 0
	texts := map[api.Session]string{}
	for range draws {
		secret, s := r.secret(), r.session()
		token, _ := Token(secret, s)
		for range 4 {
			text := r.turnedToken(token, secret)
			got, e := Read(secret, text, 0)
			if e == api.OK {
				taken++
				if made, madeE := Token(secret, got); madeE != api.OK || made != text {
					t.Fatalf("%q is taken as %+v, whose token is %q, %d", text, got, made, madeE)
				}
				if got == s && text != token {
					t.Fatalf("%+v has the tokens %q and %q", s, text, token)
				}
			}
			if want, wantE := secondRead(secret, text, 0); got != want || e != wantE {
				t.Fatalf("Read of %q, %q is %+v, %d, not %+v, %d", secret, text, got, e, want, wantE)
			}
		}
		one, _ := Token("k", s)
		if was, ok := texts[s]; ok && was != one {
			t.Fatalf("%+v has the tokens %q and %q", s, was, one)
		}
		texts[s] = one
	}
	told := map[string]api.Session{}
	for s, text := range texts {
		if other, ok := told[text]; ok {
			t.Fatalf("%+v and %+v have the token %q", s, other, text)
		}
		told[text] = s
	}
	if taken < draws/2 {
		t.Errorf("%d of %d were taken", taken, 4*draws)
	}
}

// What is told is what the second version tells.
func TestSecond(t *testing.T) {
	r := newDrawer(4)
	told := map[api.Errno]int{}
	for range draws {
		u, word := r.user()
		if r.in(2) {
			u = r.turnedUser(u)
		}
		if r.in(4) {
			word = r.one(append(no, u.Salt))
		}
		want, wantE := secondFits(u, word)
		if is, e := Fits(u, word); is != want || e != wantE {
			t.Fatalf("Fits of %+v, %q is %v, %d, not %v, %d", u, word, is, e, want, wantE)
		}
		told[wantE]++
		made, madeE := secondMake(u.Name, u.Salt, word, u.Roles)
		if got, e := Make(u.Name, u.Salt, word, u.Roles); e != madeE || !sameUser(got, made) {
			t.Fatalf("Make of %+v, %q is %+v, %d, not %+v, %d", u, word, got, e, made, madeE)
		}
		told[madeE]++
		secret, s, clock := r.secret(), r.session(), r.clock()
		if r.in(2) {
			s = r.turnedSession(s)
		}
		if r.in(8) {
			secret = r.one(no)
		}
		if r.in(8) {
			clock = wild[r.Intn(len(wild))]
		}
		text, textE := secondToken(secret, s)
		if token, e := Token(secret, s); e != textE || token != text {
			t.Fatalf("Token of %q, %+v is %q, %d, not %q, %d", secret, s, token, e, text, textE)
		}
		told[textE]++
		token, _ := secondToken("k", good())
		if textE == api.OK {
			token = text
		}
		if r.in(3) {
			token = r.turnedToken(token, secret)
		}
		got, gotE := secondRead(secret, token, clock)
		if x, e := Read(secret, token, clock); x != got || e != gotE {
			t.Fatalf("Read of %q, %q, %d is %+v, %d, not %+v, %d", secret, token, clock, x, e, got, gotE)
		}
		told[gotE]++
	}
	for _, e := range []api.Errno{api.OK, api.ErrArg, api.ErrText, api.ErrMany, api.ErrName, api.ErrBad, api.ErrPass, api.ErrToken, api.ErrLate} {
		if told[e] < draws/50 {
			t.Errorf("%d was told %d times", e, told[e])
		}
	}
}

// roomy is a copy of a list with spare room behind it, in which something stands.
func roomy(l []string) []string {
	copied := append(make([]string, 0, len(l)+2), l...)
	return append(copied, "spare", "spare")[:len(l)]
}

// all tells a list with all its spare room.
func all(l []string) string { return fmt.Sprintf("%q", l[:cap(l)]) }

func TestOnlyRead(t *testing.T) {
	r := newDrawer(5)
	for i := range draws / 2 {
		u, word := r.user()
		if i%3 == 0 {
			u = r.turnedUser(u)
		}
		u.Roles = roomy(u.Roles)
		was, wasUser := all(u.Roles), fmt.Sprintf("%q", u)
		Make(u.Name, u.Salt, word, u.Roles)
		Fits(u, word)
		Fits(u, "")
		if all(u.Roles) != was || fmt.Sprintf("%q", u) != wasUser {
			t.Fatalf("%q was written on: %s, %s", u, was, wasUser)
		}
	}
}

// shares tells whether two lists share memory.
func shares(a, b []string) bool {
	if cap(a) == 0 || cap(b) == 0 {
		return false
	}
	fromA, fromB := uintptr(unsafe.Pointer(&a[:1][0])), uintptr(unsafe.Pointer(&b[:1][0]))
	size := unsafe.Sizeof("")
	return fromA < fromB+uintptr(cap(b))*size && fromB < fromA+uintptr(cap(a))*size
}

func TestNewMemory(t *testing.T) {
	r := newDrawer(6)
	for range draws / 2 {
		roles := roomy(r.roles())
		u, e := Make("ann", "salt", "secret", roles)
		again, _ := Make("ann", "salt", "secret", roles)
		if e != api.OK || shares(u.Roles, roles) || shares(u.Roles, again.Roles) {
			t.Fatalf("%q of %q shares memory, %d", u.Roles, roles, e)
		}
		// What is spoilt afterwards spoils nothing else.
		was, wasAgain := all(roles), all(again.Roles)
		for i := range u.Roles[:cap(u.Roles)] {
			u.Roles[:cap(u.Roles)][i] = "spoilt"
		}
		if all(roles) != was || all(again.Roles) != wasAgain {
			t.Fatal("something changed with an answer")
		}
		for i := range roles {
			roles[i] = "spoilt"
		}
		if all(again.Roles) != wasAgain {
			t.Fatal("an answer changed with what was handed in")
		}
	}
}

// What a call answers hangs on its arguments alone, not on the calls ahead of it.
func TestAgain(t *testing.T) {
	for range 100 {
		wantMake(t, "ann", "salt", "secret", []string{"clerk"})
		wantNotMake(t, "Ann", "salt", "secret", nil, api.ErrName)
		wantFits(t, ann(), "secret", true)
		wantFits(t, ann(), "other", false)
		wantNotFits(t, ann(), "", api.ErrPass)
		token := wantToken(t, "k", good())
		other := wantToken(t, "j", good())
		wantNotToken(t, "", good(), api.ErrText)
		wantRead(t, "k", token, 100, good())
		wantNotRead(t, "j", token, 100, api.ErrToken)
		wantRead(t, "j", other, 100, good())
		wantNotRead(t, "k", token, 101, api.ErrLate)
		wantRead(t, "k", token, 0, good())
	}
}
