package guard

import (
	"strconv"
	"strings"

	"docket/api"
)

// What a token is. A sign and a taken word are what they are written as; the names of the others have blanks, so that none is written so.
const (
	aNumber = "a number"
	aText   = "a text"
	aName   = "a name"
	theEnd  = "the end"
	nothing = "no token"
)

const signs = "=<+-*()"

type token struct {
	what    string
	at, end int
	text    string // a text's, a name's
	n       int64  // a number's
}

// tokenAt is what begins at a place at which no blank stands; at the end, and where nothing begins, it has no bytes.
func tokenAt(s string, at int) token {
	t := token{at: at, end: at}
	rest := s[at:]
	switch {
	case rest == "":
		t.what = theEnd
	case strings.IndexByte(signs, rest[0]) >= 0:
		t.what, t.end = rest[:1], at+1
	case rest[0] == '\'':
		t = t.asText(rest)
	case isDigit(rest[0]):
		t = t.asNumber(rest)
	default:
		t = t.asWord(rest)
	}
	return t
}

func (t token) asText(rest string) token {
	n := charsIn(rest[1:])
	if !strings.HasPrefix(rest[1+n:], "'") {
		t.what = nothing
		return t
	}
	t.what, t.text = aText, rest[1:1+n]
	t.end += n + 2
	return t
}

func (t token) asNumber(rest string) token {
	n := 1
	// Behind a nought another number begins, which can't stand there.
	for rest[0] != '0' && n < len(rest) && isDigit(rest[n]) {
		n++
	}
	worth, err := strconv.ParseInt(rest[:n], 10, 64)
	if err != nil {
		t.what = nothing
		return t
	}
	t.what, t.n = aNumber, worth
	t.end += n
	return t
}

func (t token) asWord(rest string) token {
	n := wordIn(rest)
	switch word := rest[:n]; {
	case n == 0 || n > api.MaxName:
		t.what = nothing
		return t
	case isTaken(word):
		t.what = word
	default:
		t.what, t.text = aName, word
	}
	t.end += n
	return t
}

// wordIn is how many bytes of a word, of whatever length, s begins with.
func wordIn(s string) int {
	n := 0
	for n < len(s) && (isSmall(s[n]) || n > 0 && isWithin(s[n])) {
		n++
	}
	return n
}

// charsIn is how many bytes of a text's s begins with.
func charsIn(s string) int {
	n := 0
	for n < len(s) && s[n] >= ' ' && s[n] <= '~' && s[n] != '\'' {
		n++
	}
	return n
}

func isSmall(c byte) bool { return c >= 'a' && c <= 'z' }

func isDigit(c byte) bool { return c >= '0' && c <= '9' }

// isWithin tells what else than small letters may stand in a word, behind the first one.
func isWithin(c byte) bool { return isDigit(c) || c == '-' || c == '_' || c == '.' }
