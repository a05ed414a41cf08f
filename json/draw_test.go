package json

import (
	"fmt"
	"math"
	"math/rand"
	"strings"

	"docket/api"
)

const draws = 20000

// drawer draws values and texts, always the same ones of one seed.
type drawer struct{ *rand.Rand }

func newDrawer(seed int64) drawer { return drawer{rand.New(rand.NewSource(seed))} }

func (r drawer) one(l ...string) string { return l[r.Intn(len(l))] }

// chars is a text that may be, with many of those characters that are written in a way of their own.
func (r drawer) chars() string {
	var b strings.Builder
	for range r.Intn(6) {
		switch r.Intn(5) {
		case 0:
			b.WriteRune(rune(r.Intn(128)))
		case 1:
			b.WriteString(r.one(`"`, `\`, "/", "\b", "\t", "\n", "\f", "\r", "\x00", "\x1f", "\x7f", "u", `\u0041`))
		case 2:
			b.WriteString(r.one("é", "\u0080", "\u07ff", "\u0800", "\ud7ff", "\ue000", "\ufffd", "\uffff", "\U00010000", "\U0001F600", "\U0010ffff", "\u2028"))
		default:
			b.WriteByte("abc"[r.Intn(3)])
		}
	}
	return b.String()
}

// otherNumber is one that is no integer.
func (r drawer) otherNumber() string {
	s := r.one("", "-") + r.one("0", "7", "10", "9223372036854775808", "123456789012345678901234567890")
	switch r.Intn(4) {
	case 0:
		return r.one("-0", "9223372036854775808", "-9223372036854775809", "100000000000000000000")
	case 1:
		return s + "." + r.one("0", "50", "001")
	case 2:
		return s + "." + r.one("0", "5") + r.one("e", "E") + r.one("", "+", "-") + r.one("0", "05", "999")
	}
	return s + r.one("e", "E") + r.one("", "+", "-") + r.one("0", "10", "00")
}

func (r drawer) integer() int64 {
	switch r.Intn(3) {
	case 0:
		return []int64{0, 1, -1, math.MaxInt64, math.MinInt64, math.MaxInt64 - 1, math.MinInt64 + 1}[r.Intn(7)]
	case 1:
		return r.Int63() - r.Int63()
	}
	return int64(r.Intn(200) - 100)
}

// value is one that may be, of at most so many lists and objects one within another.
func (r drawer) value(depth int) api.Json {
	kind := r.Intn(9)
	if depth == 0 {
		kind = r.Intn(5)
	}
	switch kind {
	case 0:
		return api.Json{}
	case 1:
		return truth(r.Intn(2) == 0)
	case 2:
		return whole(r.integer())
	case 3:
		return number(r.otherNumber())
	case 4:
		return text(r.chars())
	case 5, 6:
		v := list()
		for range r.Intn(4) {
			v.Items = append(v.Items, r.value(depth-1))
		}
		return v
	}
	v := object()
	for range r.Intn(4) {
		name := r.chars()
		if indexOf(v.Names, name) < 0 {
			v.Names, v.Items = append(v.Names, name), append(v.Items, r.value(depth-1))
		}
	}
	return v
}

func indexOf(l []string, s string) int {
	for i, x := range l {
		if x == s {
			return i
		}
	}
	return -1
}

// parts are all values within v, and v, as what they can be turned by.
func parts(v *api.Json) []*api.Json {
	l := []*api.Json{v}
	for i := range v.Items {
		l = append(l, parts(&v.Items[i])...)
	}
	return l
}

// turned is v with some field of some value within it other than it was: it may be then, or not.
func (r drawer) turned(v api.Json) api.Json {
	v = deep(v)
	l := parts(&v)
	x := l[r.Intn(len(l))]
	switch r.Intn(9) {
	case 0:
		x.Kind = uint8(r.Intn(9))
	case 1:
		x.Bool = !x.Bool
	case 2:
		x.Int = r.integer()
	case 3:
		x.Text = r.one("", "a", "1", "1.0", "01", "-0", "\xff", "1.", "\xed\xa0\x80", " 1.5", "9223372036854775808")
	case 4:
		x.Names = append(x.Names, r.one("", "a", "\xff", "\xc0\x80"))
	case 5:
		x.Items = append(x.Items, r.value(1))
	case 6:
		if len(x.Names) > 0 {
			x.Names[r.Intn(len(x.Names))] = r.one("a", "b", "", "\xff", x.Names[0])
		}
	case 7:
		if len(x.Items) > 0 {
			x.Items = x.Items[:len(x.Items)-1]
		}
	case 8:
		for range r.Intn(35) {
			*x = list(*x)
		}
	}
	return v
}

// deep is a copy that shares no list with v.
func deep(v api.Json) api.Json {
	v.Names = append([]string(nil), v.Names...)
	items := v.Items
	v.Items = nil
	for _, x := range items {
		v.Items = append(v.Items, deep(x))
	}
	return v
}

func (r drawer) blanks() string {
	if r.Intn(3) > 0 {
		return ""
	}
	return r.one(" ", "\t", "\n", "\r", "  ", "\r\n\t ")
}

// quoted writes a text, each character in one of the ways in which it may be.
func (r drawer) quoted(s string) string {
	var b strings.Builder
	for _, c := range s {
		switch {
		case r.Intn(4) == 0 && c > 0xffff:
			fmt.Fprintf(&b, r.one(`\u%04x\u%04X`, `\u%04X\u%04x`), 0xd800+(c-0x10000)>>10, 0xdc00+(c-0x10000)&0x3ff)
		case r.Intn(4) == 0 && c <= 0xffff || c < 32:
			fmt.Fprintf(&b, r.one(`\u%04x`, `\u%04X`), c)
		case c == '"' || c == '\\' || c == '/' && r.Intn(2) == 0:
			b.WriteString(`\` + string(c))
		default:
			b.WriteRune(c)
		}
	}
	return `"` + b.String() + `"`
}

// written writes a value that may be in one of the ways in which it may be.
func (r drawer) written(v api.Json) string {
	var s string
	switch v.Kind {
	case api.Text:
		s = r.quoted(v.Text)
	case api.List, api.Object:
		var l []string
		for i, x := range v.Items {
			item := r.written(x)
			if v.Kind == api.Object {
				item = r.blanks() + r.quoted(v.Names[i]) + r.blanks() + ":" + item
			}
			l = append(l, item)
		}
		s = strings.Join(l, ",")
		if len(l) == 0 {
			s = r.blanks()
		}
		if s = "[" + s + "]"; v.Kind == api.Object {
			s = "{" + s[1:len(s)-1] + "}"
		}
	default:
		s = modelWritten(v)
	}
	return r.blanks() + s + r.blanks()
}

// text is a written value, most often with something wrong somewhere.
func (r drawer) text() string {
	s := r.written(r.value(4))
	for range r.Intn(3) {
		at := r.Intn(len(s) + 1)
		switch r.Intn(5) {
		case 0:
			s = s[:at]
		case 1:
			s = s[:at] + string([]byte{byte(r.Intn(256))}) + s[at:]
		case 2:
			s = s[:at] + r.one("[", "]", "{", "}", ",", ":", `"`, `\`, "0", "1", "-", ".", "e", " ", `\u`, `\ud800`, `"a"`, "null", `"a":`, "é", "\x80") + s[at:]
		case 3:
			to := at + r.Intn(len(s)-at+1)
			s = s[:at] + s[to:]
		case 4:
			to := at + r.Intn(len(s)-at+1)
			s = s[:to] + s[at:]
		}
		if len(s) == 0 {
			break
		}
	}
	return s
}
