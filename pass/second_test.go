package pass

import (
	"crypto/hmac"
	"crypto/sha256"
	"fmt"
	"math/big"
	"regexp"
	"strings"

	"docket/api"
)

// A second version of the package, by the library's own digests, big numbers and patterns: it calls none of the package's functions.
var (
	nameForm  = regexp.MustCompile(`\A[-a-z0-9_.]{1,32}\z`)
	passForm  = regexp.MustCompile(`\A[0-9a-f]{64}\z`)
	tokenForm = regexp.MustCompile(`\A(0|[1-9][0-9]*)\.([0-9a-f]*)\.(0|[1-9][0-9]*)\.([0-9a-f]{64})\z`)
)

// secondSeal is a seal in sixteens.
func secondSeal(secret, text string) string {
	h := hmac.New(sha256.New, []byte(secret))
	h.Write([]byte(text))
	return fmt.Sprintf("%x", h.Sum(nil))
}

func secondDigest(salt, pass string) string {
	for range 4 {
		h := hmac.New(sha256.New, []byte(salt))
		h.Write([]byte(pass))
		pass = string(h.Sum(nil))
	}
	return fmt.Sprintf("%x", pass)
}

func secondMake(name, salt, pass string, roles []string) (api.User, api.Errno) {
	switch {
	case !nameForm.MatchString(name):
		return api.User{}, api.ErrName
	case len(salt) > 64:
		return api.User{}, api.ErrText
	case pass == "" || len(pass) > 64:
		return api.User{}, api.ErrPass
	case len(roles) > 32:
		return api.User{}, api.ErrMany
	}
	u := api.User{Name: name, Salt: salt, Pass: secondDigest(salt, pass)}
	for _, role := range roles {
		if !nameForm.MatchString(role) {
			return api.User{}, api.ErrName
		}
		u.Roles = append(u.Roles, role)
	}
	return u, api.OK
}

func secondFits(u api.User, pass string) (bool, api.Errno) {
	roles := true
	for _, role := range u.Roles {
		roles = roles && nameForm.MatchString(role)
	}
	switch {
	case !roles, len(u.Roles) > 32, !nameForm.MatchString(u.Name), len(u.Salt) > 64, !passForm.MatchString(u.Pass):
		return false, api.ErrBad
	case pass == "" || len(pass) > 64:
		return false, api.ErrPass
	}
	return secondDigest(u.Salt, pass) == u.Pass, api.OK
}

func secondToken(secret string, s api.Session) (string, api.Errno) {
	switch {
	case secret == "" || len(secret) > 64:
		return "", api.ErrText
	case s.Id < 0, s.Id > 2147483647, !nameForm.MatchString(s.User), s.Until < 0, s.Until > 1099511627776:
		return "", api.ErrBad
	}
	text := fmt.Sprintf("%d.%x.%d", s.Id, s.User, s.Until)
	return text + "." + secondSeal(secret, text), api.OK
}

// secondNumber is a number up to a limit.
func secondNumber(text string, top int64) (int, bool) {
	n, ok := new(big.Int).SetString(text, 10)
	if !ok || n.Cmp(big.NewInt(top)) > 0 {
		return 0, false
	}
	return int(n.Int64()), true
}

// secondName undoes sixteens.
func secondName(text string) (string, bool) {
	const sixteens = "0123456789abcdef"
	if len(text)%2 != 0 {
		return "", false
	}
	var s strings.Builder
	for i := 0; i < len(text); i += 2 {
		s.WriteByte(byte(strings.IndexByte(sixteens, text[i])*16 + strings.IndexByte(sixteens, text[i+1])))
	}
	return s.String(), nameForm.MatchString(s.String())
}

func secondRead(secret, token string, clock int) (api.Session, api.Errno) {
	if secret == "" || len(secret) > 64 {
		return api.Session{}, api.ErrText
	}
	if clock < 0 || clock > 1099511627776 {
		return api.Session{}, api.ErrArg
	}
	l := tokenForm.FindStringSubmatch(token)
	if l == nil || l[4] != secondSeal(secret, token[:len(token)-65]) {
		return api.Session{}, api.ErrToken
	}
	id, idOk := secondNumber(l[1], 2147483647)
	user, userOk := secondName(l[2])
	until, untilOk := secondNumber(l[3], 1099511627776)
	if !idOk || !userOk || !untilOk {
		return api.Session{}, api.ErrToken
	}
	if clock > until {
		return api.Session{}, api.ErrLate
	}
	return api.Session{Id: id, User: user, Until: until}, api.OK
}
