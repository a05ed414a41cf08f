package pass

import (
	"fmt"
	"math"
	"strings"
	"testing"

	"docket/api"
	"docket/hash"
)

func wantRead(t *testing.T, secret, token string, clock int, want api.Session) {
	t.Helper()
	if s, e := Read(secret, token, clock); e != api.OK || s != want {
		t.Fatalf("Read of %q, %q, %d is %+v, %d, not %+v", secret, token, clock, s, e, want)
	}
}

func wantNotRead(t *testing.T, secret, token string, clock int, want api.Errno) {
	t.Helper()
	if s, e := Read(secret, token, clock); e != want || s != (api.Session{}) {
		t.Fatalf("Read of %d bytes, %.200q, %d is %+v, %d, not %d", len(secret), token, clock, s, e, want)
	}
}

// wantNoToken asks that a text is no token, whenever it is read.
func wantNoToken(t *testing.T, token string) {
	t.Helper()
	for _, clock := range []int{0, 100, 101, api.MaxClock} {
		wantNotRead(t, "k", token, clock, api.ErrToken)
	}
}

// sealed is a text with the seal that is right for it.
func sealed(text string) string {
	seal := hash.Sealed([]byte("k"), []byte(text))
	return text + "." + hash.Hex(seal[:])
}

// Each of a call's errors alone, and of several the first.
func TestReadErrors(t *testing.T) {
	type part[T any] struct {
		is T
		e  api.Errno
	}
	token := sealed("7.616e6e.100")
	secrets := []part[string]{{"k", api.OK}, {"", api.ErrText}, {long(65), api.ErrText}, {long(1 << 16), api.ErrText}}
	clocks := []part[int]{{0, api.OK}, {1, api.OK}, {99, api.OK}, {100, api.OK}, {101, api.ErrLate}, {api.MaxClock, api.ErrLate}, {-1, api.ErrArg}, {api.MaxClock + 1, api.ErrArg}, {math.MinInt64, api.ErrArg}, {math.MaxInt64, api.ErrArg}}
	texts := []part[string]{{token, api.OK}, {"", api.ErrToken}, {sealed("07.616e6e.100"), api.ErrToken}, {sealed("7.616e6e.1099511627777"), api.ErrToken}, {strings.ToUpper(token), api.ErrToken}}
	for _, secret := range secrets {
		for _, clock := range clocks {
			for _, text := range texts {
				e := secret.e
				if e == api.OK && clock.e == api.ErrArg {
					e = api.ErrArg
				}
				if e == api.OK {
					e = text.e
				}
				if e == api.OK {
					e = clock.e
				}
				if e == api.OK {
					wantRead(t, secret.is, text.is, clock.is, good())
				} else {
					wantNotRead(t, secret.is, text.is, clock.is, e)
				}
			}
		}
	}
}

func TestReadSecrets(t *testing.T) {
	for n := range 67 {
		if n < 1 || n > 64 {
			wantNotRead(t, long(n), sealed("7.616e6e.100"), 0, api.ErrText)
			continue
		}
		token := wantToken(t, long(n), good())
		wantRead(t, long(n), token, 0, good())
		for k := 1; k <= 64; k++ {
			if k != n {
				wantNotRead(t, long(k), token, 0, api.ErrToken)
			}
		}
	}
	for _, secret := range []string{"j", "K", "kk", " k", "k ", "\x00k", "\x00"} {
		wantNotRead(t, secret, sealed("7.616e6e.100"), 0, api.ErrToken)
	}
	// A seal takes a secret with noughts behind it for the same one: such secrets have the same tokens.
	for n := range 64 {
		secret := "k" + strings.Repeat("\x00", n)
		wantRead(t, secret, wantToken(t, "k", good()), 0, good())
		wantRead(t, "k", wantToken(t, secret, good()), 0, good())
	}
}

// How long a session lasts.
func TestReadClock(t *testing.T) {
	for _, until := range []int{0, 1, 2, 100, 1 << 31, api.MaxClock - 1, api.MaxClock} {
		s := api.Session{Id: 1, User: "a", Until: until}
		token := wantToken(t, "k", s)
		for _, clock := range []int{-1, 0, 1, until / 2, until - 1, until, until + 1, until * 2, api.MaxClock - 1, api.MaxClock, api.MaxClock + 1} {
			switch {
			case clock < 0 || clock > api.MaxClock:
				wantNotRead(t, "k", token, clock, api.ErrArg)
			case clock > until:
				wantNotRead(t, "k", token, clock, api.ErrLate)
			default:
				wantRead(t, "k", token, clock, s)
			}
			if clock >= 0 && clock <= api.MaxClock {
				wantNotRead(t, "k", token+"0", clock, api.ErrToken)
				wantNotRead(t, "j", token, clock, api.ErrToken)
			}
		}
	}
}

// One byte changed, put in or taken out, with the seal as it was.
func TestReadOneByte(t *testing.T) {
	for _, s := range []api.Session{good(), {User: "a"}, {Id: 11, User: "00", Until: 11}, {Id: 1<<31 - 1, User: long(api.MaxName), Until: api.MaxClock}} {
		token := wantToken(t, "k", s)
		for i := range len(token) + 1 {
			for c := range 256 {
				wantNotRead(t, "k", token[:i]+string([]byte{byte(c)})+token[i:], 0, api.ErrToken)
				if i < len(token) && token[i] != byte(c) {
					wantNotRead(t, "k", token[:i]+string([]byte{byte(c)})+token[i+1:], 0, api.ErrToken)
				}
			}
			if i < len(token) {
				wantNotRead(t, "k", token[:i]+token[i+1:], 0, api.ErrToken)
			}
		}
	}
}

// wantAsSecond asks for what the second version reads; what is taken must be what Token makes.
func wantAsSecond(t *testing.T, token string, clock int) api.Errno {
	t.Helper()
	want, wantE := secondRead("k", token, clock)
	s, e := Read("k", token, clock)
	if s != want || e != wantE {
		t.Fatalf("Read of %q, %d is %+v, %d, not %+v, %d", token, clock, s, e, want, wantE)
	}
	if made, madeE := Token("k", s); e == api.OK && (madeE != api.OK || made != token) {
		t.Fatalf("%q is taken, but %+v has the token %q, %d", token, s, made, madeE)
	}
	return e
}

// One byte changed, put in or taken out, with the seal that is right for it.
func TestReadOneByteSealed(t *testing.T) {
	told := map[api.Errno]int{}
	for _, s := range []api.Session{good(), {User: "a"}, {Id: 11, User: "00", Until: 11}, {Id: 1<<31 - 1, User: long(api.MaxName), Until: api.MaxClock}} {
		token := wantToken(t, "k", s)
		text := token[:len(token)-65]
		for i := range len(text) + 1 {
			for c := range 256 {
				told[wantAsSecond(t, sealed(text[:i]+string([]byte{byte(c)})+text[i:]), 0)]++
				if i < len(text) {
					told[wantAsSecond(t, sealed(text[:i]+string([]byte{byte(c)})+text[i+1:]), 0)]++
				}
			}
			if i < len(text) {
				told[wantAsSecond(t, sealed(text[:i]+text[i+1:]), 0)]++
			}
		}
	}
	if told[api.OK] < 500 || told[api.ErrToken] < 5000 {
		t.Error(told)
	}
}

// Great sixteens stand for the same bytes, but no token has them.
func TestReadGreatSixteens(t *testing.T) {
	s := api.Session{Id: 7, User: "jklmnoz-_.", Until: 100}
	token := wantToken(t, "k", s)
	great := 0
	for i := range len(token) {
		if token[i] < 'a' {
			continue
		}
		great++
		other := token[:i] + strings.ToUpper(token[i:i+1]) + token[i+1:]
		wantNoToken(t, other)
		if i < len(token)-65 {
			wantNoToken(t, sealed(other[:len(other)-65]))
		}
	}
	if great < 20 {
		t.Errorf("%d sixteens are letters", great)
	}
	text, seal := token[:len(token)-64], token[len(token)-64:]
	wantNoToken(t, text+strings.ToUpper(seal))
	wantNoToken(t, sealed(strings.ToUpper(text[:len(text)-1])))
	wantRead(t, "k", token, 0, s)
}

// Texts that are sealed as they should be, but that no session is written as.
func TestReadSealed(t *testing.T) {
	wantRead(t, "k", sealed("7.616e6e.100"), 100, good())
	wantRead(t, "k", sealed("0.61.0"), 0, api.Session{User: "a"})
	wantRead(t, "k", sealed("2147483647.61.1099511627776"), api.MaxClock, api.Session{Id: 1<<31 - 1, User: "a", Until: api.MaxClock})
	ids := []string{"", "00", "07", "007", "+7", "-7", "-0", "+0", " 7", "7 ", "7\n", "0x7", "7e0", "7,0", "1_0", "٧", "７", "a", "-", "+", "2147483648", "4294967303", "9223372036854775807", "9223372036854775808", "18446744073709551623", "36893488147419103239", "-9223372036854775808", "-9223372036854775809", strings.Repeat("9", 100), strings.Repeat("0", 100) + "7", "340282366920938463463374607431768211463"}
	for _, id := range ids {
		wantNoToken(t, sealed(id+".616e6e.100"))
	}
	untils := []string{"", "00", "0100", "00100", "+100", "-100", "-0", "+0", " 100", "100 ", "100\n", "0x64", "1e2", "1_00", "a", "-", "+", "1099511627777", "1099511627876", "9223372036854775807", "9223372036854775808", "18446744073709551716", "-9223372036854775808", strings.Repeat("9", 100), strings.Repeat("0", 100) + "100", "340282366920938463463374607431768211556"}
	for _, until := range untils {
		wantNoToken(t, sealed("7.616e6e."+until))
	}
	users := []string{"", "6", "616", "616e6", "616e6e6", "a", "ann", "6g", "g6", "  ", "61 6e", "0x61", "61-", "+61", "00", "0a", "20", "41", "616e4e", "7f", "ff", "c3a9", "616e6e0a", strings.Repeat("70", 33), strings.Repeat("70", 1<<12), strings.Repeat("70", 32) + "7"}
	for _, user := range users {
		wantNoToken(t, sealed("7."+user+".100"))
	}
	for _, text := range []string{"", ".", "..", "...", "7", "7.616e6e", "7616e6e.100", "7.616e6e100", "7.616e6e.100.", ".7.616e6e.100", "7..616e6e.100", "7.616e6e..100", "7.616e6e.100.0", "7.616e6e.100.100", "0.7.616e6e.100", "7.61.6e6e.100", "7.616e6e.100.61", "7,616e6e,100", "616e6e.7.100", "7.100.616e6e", sealed("7.616e6e.100")} {
		wantNoToken(t, sealed(text))
	}
}

// What stands behind the last point is the seal and nothing else.
func TestReadSeals(t *testing.T) {
	const text = "7.616e6e.100"
	token := sealed(text)
	seal := token[len(text)+1:]
	for n := range 64 {
		wantNoToken(t, text+"."+seal[:n])
		wantNoToken(t, text+"."+seal+seal[n:])
		if n > 0 {
			wantNoToken(t, text+"."+seal[n:])
			wantNoToken(t, text+"."+seal[n:]+seal[:n])
			wantNoToken(t, text+"."+strings.Repeat("0", n)+seal)
		}
	}
	wantRead(t, "k", text+"."+seal, 0, good())
	for _, other := range []string{"", text, seal, "." + seal, text + seal, text + ".", text + ".." + seal, token + ".", "." + token, token + token, token + " ", " " + token, token + "\n", token + "\x00", token + "00", token + "." + seal, text + "." + hash.Hex([]byte(seal)), seal + "." + text, text + "." + strings.Repeat("0", 64)} {
		wantNoToken(t, other)
	}
	// A seal of the text with its point, of a part of it, or of the text by itself as the secret.
	for _, ahead := range []string{text + ".", "", "7", "7.616e6e", "616e6e.100", "7616e6e100", "7.ann.100"} {
		wantNoToken(t, text+"."+secondSeal("k", ahead))
	}
	wantNoToken(t, text+"."+secondSeal(text, "k"))
	digest := hash.Sum([]byte("k" + text))
	wantNoToken(t, text+"."+hash.Hex(digest[:]))
}

func TestReadLongTexts(t *testing.T) {
	const much = 1 << 20
	seal := sealed("7.616e6e.100")[12:]
	for _, text := range []string{".", "0", "9", "a", "61", "\x00", "\xff", "é", "7.616e6e.100.", sealed("7.616e6e.100")} {
		l := strings.Repeat(text, much/len(text))
		wantNotRead(t, "k", l, 0, api.ErrToken)
		wantNotRead(t, "k", sealed(l), 0, api.ErrToken)
		wantNotRead(t, "k", "7.616e6e.100."+l, 0, api.ErrToken)
		wantNotRead(t, "k", "7."+l+".100"+seal, 0, api.ErrToken)
		wantNotRead(t, "k", sealed("7."+l+".100"), 0, api.ErrToken)
		wantNotRead(t, "k", sealed(l+".616e6e.100"), 0, api.ErrToken)
		wantNotRead(t, "k", sealed("7.616e6e."+l), 0, api.ErrToken)
	}
}

// A session that is over is told of only by a token that is one.
func TestReadLate(t *testing.T) {
	token := sealed("7.616e6e.100")
	for i := range len(token) {
		other := token[:i] + token[i+1:]
		wantNotRead(t, "k", other, 101, api.ErrToken)
		wantNotRead(t, "k", other, api.MaxClock, api.ErrToken)
	}
	for clock := range 204 {
		if clock <= 100 {
			wantRead(t, "k", token, clock, good())
		} else {
			wantNotRead(t, "k", token, clock, api.ErrLate)
		}
		wantNotRead(t, "j", token, clock, api.ErrToken)
	}
	// Neither the Id nor anything else of the session counts with the clock.
	for _, id := range []int{0, 1, 200, 1<<31 - 1} {
		token := sealed(fmt.Sprint(id) + ".61.100")
		wantRead(t, "k", token, 100, api.Session{Id: id, User: "a", Until: 100})
		wantNotRead(t, "k", token, 101, api.ErrLate)
	}
}
