package pass

import (
	"math"

	"docket/api"
	"docket/hash"
)

// How many bytes salts, passwords and secrets have at most, and digests have; and how many times over a password is sealed.
const (
	maxSalt   = 64
	maxSecret = 64
	passSize  = 64
	passTimes = 4
)

// isSecret tells whether a text may be a password, or what tokens are sealed by.
func isSecret(s string) bool {
	return len(s) >= 1 && len(s) <= maxSecret
}

func isClock(n int) bool {
	return n >= 0 && n <= api.MaxClock
}

func userFits(u api.User) bool {
	return isName(u.Name) && len(u.Salt) <= maxSalt && isDigest(u.Pass) && len(u.Roles) <= api.MaxRoles && areNames(u.Roles)
}

func isDigest(s string) bool {
	if len(s) != passSize {
		return false
	}
	_, e := hash.Unhex(s)
	return e == api.OK
}

func sessionFits(s api.Session) bool {
	return s.Id >= 0 && s.Id <= math.MaxInt32 && isName(s.User) && isClock(s.Until)
}

func areNames(l []string) bool {
	for _, s := range l {
		if !isName(s) {
			return false
		}
	}
	return true
}

func isName(s string) bool {
	if len(s) < 1 || len(s) > api.MaxName {
		return false
	}
	for i := range len(s) {
		if !isNameByte(s[i]) {
			return false
		}
	}
	return true
}

func isNameByte(c byte) bool {
	return 'a' <= c && c <= 'z' || '0' <= c && c <= '9' || c == '-' || c == '_' || c == '.'
}
