package json

import (
	"slices"
	"strconv"
	"strings"
	"unicode/utf8"

	"docket/api"
)

const (
	blank = "\t\n\r "
	digit = "0123456789"
	// The letters of escapes, and, each at its letter's place, the bytes that they tell.
	letters  = "bfnrt"
	controls = "\b\f\n\r\t"
)

// reader goes through a text from the left. A refusal ends the text where it stands: what is read behind it finds nothing more, and goes no further.
type reader struct {
	text  string
	at    int
	fault api.Errno
}

// refuse keeps the first fault alone: all others come from the end that it made.
func (r *reader) refuse(e api.Errno) {
	if r.fault == api.OK {
		r.fault = e
		r.text = r.text[:r.at]
	}
}

// peek is the next byte; 0 at the end, as that one may stand nowhere.
func (r *reader) peek() byte {
	if r.at == len(r.text) {
		return 0
	}
	return r.text[r.at]
}

// skip goes beyond the next byte, if it is one of some.
func (r *reader) skip(some string) bool {
	is := r.at < len(r.text) && strings.IndexByte(some, r.text[r.at]) >= 0
	if is {
		r.at++
	}
	return is
}

// must goes beyond the next byte, which may be nothing but one of some.
func (r *reader) must(some string) bool {
	is := r.skip(some)
	if !is {
		r.refuse(api.ErrJson)
	}
	return is
}

func (r *reader) blanks() {
	for r.skip(blank) {
	}
}

func (r *reader) word(w string) {
	for i := range len(w) {
		r.must(w[i : i+1])
	}
}

// whole reads the one value that a text is.
func (r *reader) whole() api.Json {
	var value func(depth int) api.Json
	value = func(depth int) (v api.Json) {
		r.blanks()
		switch r.peek() {
		case 'n':
			r.word("null")
		case 't':
			r.word("true")
			v = Yes(true)
		case 'f':
			r.word("false")
			v = Yes(false)
		case '"':
			v = Str(r.chars())
			r.must(`"`)
		case '[':
			v.Kind = api.List
			r.enter(depth)
			for r.more("]", len(v.Items)) {
				v.Items = append(v.Items, value(depth+1))
			}
		case '{':
			v.Kind = api.Object
			r.enter(depth)
			for r.more("}", len(v.Items)) {
				v.Names = append(v.Names, r.name(v.Names))
				v.Items = append(v.Items, value(depth+1))
			}
		default: // what begins no number either is refused as one
			v = r.number()
		}
		return v
	}
	v := value(1)
	r.blanks()
	if r.at < len(r.text) {
		r.refuse(api.ErrJson)
	}
	return v
}

// enter goes beyond the bracket that begins a list or an object.
func (r *reader) enter(depth int) {
	if depth > api.MaxDepth {
		r.refuse(api.ErrDepth)
		return
	}
	r.at++
}

// more tells whether a list or an object that has n items goes on, and goes up to the next one, or beyond the bracket that ends it.
func (r *reader) more(end string, n int) bool {
	r.blanks()
	switch {
	case r.skip(end):
		return false
	case n == 0:
		return true
	case n == api.MaxItems && r.peek() == ',':
		r.refuse(api.ErrMany)
	}
	return r.must(",")
}

// name reads a name of an object, and the colon behind it.
func (r *reader) name(taken []string) string {
	r.blanks()
	name := r.chars()
	if slices.Contains(taken, name) {
		r.refuse(api.ErrJson)
	}
	r.must(`"`)
	r.blanks()
	r.must(":")
	return name
}

// number reads a number, and tells by its Kind whether it is an integer.
func (r *reader) number() api.Json {
	from := r.at
	r.skip("-")
	if !r.skip("0") {
		r.digits()
	}
	if r.skip(".") {
		r.digits()
	}
	if r.skip("eE") {
		r.skip("+-")
		r.digits()
	}
	text := r.text[from:r.at]
	// -0 would be written as 0.
	if n, err := strconv.ParseInt(text, 10, 64); err == nil && text != "-0" {
		return Num(n)
	}
	return api.Json{Kind: api.Number, Text: text}
}

// digits reads one and further ones.
func (r *reader) digits() {
	r.must(digit)
	for r.skip(digit) {
	}
}

// chars reads a text up to its closing quote: there a name may still be refused.
func (r *reader) chars() string {
	var b strings.Builder
	r.must(`"`)
	for r.fault == api.OK && r.peek() != '"' {
		switch c := r.peek(); {
		case c == '\\':
			r.at++
			r.escape(&b)
		case c < ' ':
			r.refuse(api.ErrJson)
		default:
			r.char(&b)
		}
	}
	return b.String()
}

// char reads a character that stands for itself.
func (r *reader) char(b *strings.Builder) {
	rest := r.text[r.at:]
	c, n := utf8.DecodeRuneInString(rest)
	if c != utf8.RuneError || n > 1 {
		b.WriteString(rest[:n])
		r.at += n
		return
	}
	// It is refused at the byte that spoils it, not at the one that it begins with.
	for n = 0; n < len(rest) && !utf8.FullRuneInString(rest[:n+1]); n++ {
	}
	r.at += n
	r.refuse(api.ErrJson)
}

// escape reads what stands behind a backslash.
func (r *reader) escape(b *strings.Builder) {
	switch c := r.peek(); c {
	case 'b', 'f', 'n', 'r', 't':
		c = controls[strings.IndexByte(letters, c)]
		fallthrough
	case '"', '\\', '/':
		r.at++
		b.WriteByte(c)
	case 'u':
		r.at++
		b.WriteRune(r.code())
	default:
		r.refuse(api.ErrJson)
	}
}

// code reads the sixteens of a character; those of a pair with the second half's escape.
func (r *reader) code() rune {
	high := r.sixteen(0x0, 0xf)
	most := rune(0xf)
	if high == 0xd {
		most = 0xb // beyond it are second halves, and there is no first one
	}
	high = high<<4 | r.sixteen(0x0, most)
	c := high<<8 | r.twoSixteens()
	if high < 0xd8 || high > 0xdb {
		return c
	}
	r.word(`\u`)
	r.sixteen(0xd, 0xd)
	second := r.sixteen(0xc, 0xf)<<8 | r.twoSixteens()
	return 0x10000 + (c&0x3ff)<<10 + second&0x3ff
}

func (r *reader) twoSixteens() rune {
	high := r.sixteen(0x0, 0xf)
	return high<<4 | r.sixteen(0x0, 0xf)
}

// sixteen reads one, small or great, which must be from least to most.
func (r *reader) sixteen(least, most rune) rune {
	n := rune(-1)
	switch c := rune(r.peek()); {
	case '0' <= c && c <= '9':
		n = c - '0'
	case 'a' <= c && c <= 'f':
		n = c - 'a' + 10
	case 'A' <= c && c <= 'F':
		n = c - 'A' + 10
	}
	if n < least || n > most {
		r.refuse(api.ErrJson)
		return 0
	}
	r.at++
	return n
}
