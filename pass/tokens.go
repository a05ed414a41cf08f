package pass

import (
	"strconv"
	"strings"

	"docket/api"
	"docket/hash"
)

// What stands between the parts of a token, and how many parts it has.
const (
	point = "."
	parts = 4
)

// tokens are the two ways of a secret: to write the token of a session that may be, and to read one. The secret stays with them.
func tokens(secret string) (write func(api.Session) string, read func(string) (api.Session, bool)) {
	key := []byte(secret)
	write = func(s api.Session) string {
		text := strings.Join([]string{strconv.Itoa(s.Id), hash.Hex([]byte(s.User)), strconv.Itoa(s.Until)}, point)
		seal := hash.Sealed(key, []byte(text))
		return text + point + hash.Hex(seal[:])
	}
	// What a token says is not enough: only the one text that the session is written as is its token.
	read = func(token string) (api.Session, bool) {
		s, ok := said(token)
		if !ok || !hash.Same([]byte(write(s)), []byte(token)) {
			return api.Session{}, false
		}
		return s, true
	}
	return write, read
}

// said is the session of which a token speaks, whether it is written and sealed as it must be or not.
func said(token string) (api.Session, bool) {
	// One part more than a token has is enough to tell that there are too many.
	l := strings.SplitN(token, point, parts+1)
	if len(l) != parts {
		return api.Session{}, false
	}
	id, idErr := strconv.Atoi(l[0])
	user, userErr := hash.Unhex(l[1])
	until, untilErr := strconv.Atoi(l[2])
	if idErr != nil || userErr != api.OK || untilErr != nil {
		return api.Session{}, false
	}
	s := api.Session{Id: id, User: string(user), Until: until}
	return s, sessionFits(s)
}
