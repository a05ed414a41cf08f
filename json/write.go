package json

import (
	"strconv"
	"strings"

	"docket/api"
)

const sixteens = "0123456789abcdef"

// writer writes values that may be. It ends early once what stands there is too long, whatever would come behind.
type writer struct{ strings.Builder }

func (w *writer) tooLong() bool {
	return w.Len() > api.MaxText
}

func (w *writer) value(v api.Json) {
	switch v.Kind {
	case api.Null:
		w.WriteString("null")
	case api.Bool:
		w.WriteString(strconv.FormatBool(v.Bool))
	case api.Int:
		w.WriteString(strconv.FormatInt(v.Int, 10))
	case api.Number:
		w.WriteString(v.Text)
	case api.Text:
		w.text(v.Text)
	case api.List:
		w.WriteByte('[')
		w.items(v)
		w.WriteByte(']')
	case api.Object:
		w.WriteByte('{')
		w.items(v)
		w.WriteByte('}')
	}
}

// items writes what stands between two brackets.
func (w *writer) items(v api.Json) {
	for i, x := range v.Items {
		if w.tooLong() {
			return
		}
		if i > 0 {
			w.WriteByte(',')
		}
		if v.Kind == api.Object {
			w.text(v.Names[i])
			w.WriteByte(':')
		}
		w.value(x)
	}
}

func (w *writer) text(s string) {
	w.WriteByte('"')
	for i := range len(s) {
		w.char(s[i])
	}
	w.WriteByte('"')
}

// char writes a byte of a text; those of longer characters stand for themselves one by one.
func (w *writer) char(c byte) {
	switch c {
	case '\b', '\f', '\n', '\r', '\t':
		c = letters[strings.IndexByte(controls, c)]
		fallthrough
	case '"', '\\':
		w.WriteByte('\\')
		w.WriteByte(c)
	default:
		if c < ' ' {
			w.WriteString(`\u00`)
			w.WriteByte(sixteens[c>>4])
			c = sixteens[c&15]
		}
		w.WriteByte(c)
	}
}
