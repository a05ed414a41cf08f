package json

import (
	"bytes"
	"encoding/json"
	"fmt"
	"math/big"
	"regexp"
	"strings"

	"docket/api"
)

// What the chapter says, told once more by other means: a machine that is fed byte by byte tells where a text is refused, the library's decoder what it is worth; patterns and great numbers tell which numbers may be. The model calls none of the package's functions.

// What the machine waits for.
const (
	forValue = iota
	forValueOrEnd
	forName
	forNameOrEnd
	forColon
	forNext // behind a value
	inText
	inEscape
	inMinus
	inNought
	inWhole
	inPoint
	inBroken
	inE
	inPower
	inPowerDigits
)

// about is a list or an object that is not ended yet.
type about struct {
	object bool
	items  int
	names  []string
}

type machine struct {
	state  int
	open   []about
	expect []string // of the next bytes, those that may be each
	isName bool
	raw    []byte // a text, as it is written
}

const (
	anySixteen = "0123456789abcdefABCDEF"
	tail       = "\x80\x81\x82\x83\x84\x85\x86\x87\x88\x89\x8a\x8b\x8c\x8d\x8e\x8f" + "\x90\x91\x92\x93\x94\x95\x96\x97\x98\x99\x9a\x9b\x9c\x9d\x9e\x9f" +
		"\xa0\xa1\xa2\xa3\xa4\xa5\xa6\xa7\xa8\xa9\xaa\xab\xac\xad\xae\xaf" + "\xb0\xb1\xb2\xb3\xb4\xb5\xb6\xb7\xb8\xb9\xba\xbb\xbc\xbd\xbe\xbf"
)

// tails are what must stand behind the first byte of a character of several; none, if it begins none.
func tails(c byte) []string {
	switch {
	case c >= 0xc2 && c <= 0xdf:
		return []string{tail}
	case c == 0xe0:
		return []string{tail[32:], tail}
	case c == 0xed:
		return []string{tail[:32], tail}
	case c >= 0xe1 && c <= 0xef:
		return []string{tail, tail}
	case c == 0xf0:
		return []string{tail[16:], tail, tail}
	case c >= 0xf1 && c <= 0xf3:
		return []string{tail, tail, tail}
	case c == 0xf4:
		return []string{tail[:16], tail, tail}
	}
	return nil
}

func in(c byte, some string) bool { return bytes.IndexByte([]byte(some), c) >= 0 }

func isBlank(c byte) bool { return c == 9 || c == 10 || c == 13 || c == 32 }

// feed takes one more byte, or tells why it may not.
func (m *machine) feed(c byte) api.Errno {
	if m.state == inText || m.state == inEscape {
		return m.feedText(c)
	}
	if len(m.expect) > 0 {
		return m.feedExpected(c)
	}
	if m.state >= inMinus {
		if m.feedNumber(c) {
			return api.OK
		}
		if m.state != inNought && m.state != inWhole && m.state != inBroken && m.state != inPowerDigits {
			return api.ErrJson
		}
		m.state = forNext
	}
	if isBlank(c) {
		return api.OK
	}
	switch m.state {
	case forColon:
		m.state = forValue
		return told(c == ':')
	case forNext:
		return m.feedNext(c)
	case forName, forNameOrEnd:
		if c == '}' && m.state == forNameOrEnd {
			return m.close()
		}
		m.beginText(true)
		return told(c == '"')
	}
	if c == ']' && m.state == forValueOrEnd {
		return m.close()
	}
	return m.feedValue(c)
}

func told(may bool) api.Errno {
	if may {
		return api.OK
	}
	return api.ErrJson
}

func (m *machine) feedExpected(c byte) api.Errno {
	may := in(c, m.expect[0])
	m.expect = m.expect[1:]
	return told(may)
}

func (m *machine) close() api.Errno {
	m.open = m.open[:len(m.open)-1]
	m.state = forNext
	return api.OK
}

func (m *machine) beginText(isName bool) {
	m.state, m.isName, m.raw = inText, isName, nil
}

func (m *machine) feedValue(c byte) api.Errno {
	if n := len(m.open); n > 0 {
		m.open[n-1].items++
	}
	switch c {
	case '"':
		m.beginText(false)
	case '-':
		m.state = inMinus
	case '0':
		m.state = inNought
	case '1', '2', '3', '4', '5', '6', '7', '8', '9':
		m.state = inWhole
	case 'n':
		m.state, m.expect = forNext, []string{"u", "l", "l"}
	case 't':
		m.state, m.expect = forNext, []string{"r", "u", "e"}
	case 'f':
		m.state, m.expect = forNext, []string{"a", "l", "s", "e"}
	case '[', '{':
		if len(m.open) == 32 {
			return api.ErrDepth
		}
		m.open = append(m.open, about{object: c == '{'})
		if m.state = forValueOrEnd; c == '{' {
			m.state = forNameOrEnd
		}
	default:
		return api.ErrJson
	}
	return api.OK
}

func (m *machine) feedNext(c byte) api.Errno {
	if len(m.open) == 0 {
		return api.ErrJson
	}
	o := m.open[len(m.open)-1]
	switch {
	case c == ',' && o.items == 1024:
		return api.ErrMany
	case c == ',' && o.object:
		m.state = forName
	case c == ',':
		m.state = forValue
	case c == ']' && !o.object, c == '}' && o.object:
		return m.close()
	default:
		return api.ErrJson
	}
	return api.OK
}

// feedNumber tells whether the number goes on by c.
func (m *machine) feedNumber(c byte) bool {
	type step struct {
		from int
		by   string
		to   int
	}
	for _, s := range []step{
		{inMinus, "0", inNought}, {inMinus, "123456789", inWhole}, {inWhole, "0123456789", inWhole},
		{inNought, ".", inPoint}, {inWhole, ".", inPoint}, {inPoint, "0123456789", inBroken}, {inBroken, "0123456789", inBroken},
		{inNought, "eE", inE}, {inWhole, "eE", inE}, {inBroken, "eE", inE}, {inE, "+-", inPower},
		{inE, "0123456789", inPowerDigits}, {inPower, "0123456789", inPowerDigits}, {inPowerDigits, "0123456789", inPowerDigits},
	} {
		if s.from == m.state && in(c, s.by) {
			m.state = s.to
			return true
		}
	}
	return false
}

func (m *machine) feedText(c byte) api.Errno {
	m.raw = append(m.raw, c)
	switch {
	case len(m.expect) > 0:
		if e := m.feedExpected(c); e != api.OK {
			return e
		}
		m.narrow(c)
	case m.state == inEscape:
		m.state = inText
		if c == 'u' {
			m.expect = []string{anySixteen, anySixteen, anySixteen, anySixteen}
		}
		return told(in(c, `"\/bfnrtu`))
	case c == '"':
		return m.endText()
	case c == '\\':
		m.state = inEscape
	case c >= 0x80:
		m.expect = tails(c)
		return told(m.expect != nil)
	}
	return told(c >= 32)
}

// narrow looks at the sixteens of an escape so far: those of halves allow less behind them than others do.
func (m *machine) narrow(c byte) {
	at := bytes.LastIndex(m.raw, []byte(`\u`))
	if at < 0 || c >= 0x80 || len(m.expect) == 0 || len(m.expect) > 3 || m.expect[0] != anySixteen {
		return
	}
	switch so := strings.ToLower(string(m.raw[at+2:])); {
	case so == "d" && len(m.expect) == 3:
		m.expect[0] = "0123456789abAB"
	case len(so) == 2 && so[0] == 'd' && in(so[1], "89ab") && len(m.expect) == 2:
		m.expect = append(m.expect, `\`, "u", "dD", "cdefCDEF", anySixteen, anySixteen)
	}
}

func (m *machine) endText() api.Errno {
	m.state = forNext
	if !m.isName {
		return api.OK
	}
	m.state = forColon
	var name string
	if err := json.Unmarshal(append([]byte{'"'}, m.raw...), &name); err != nil {
		panic(err)
	}
	o := &m.open[len(m.open)-1]
	for _, n := range o.names {
		if n == name {
			return api.ErrJson
		}
	}
	o.names = append(o.names, name)
	return api.OK
}

// ended tells whether what was fed is a whole text.
func (m *machine) ended() bool {
	if len(m.open) > 0 || len(m.expect) > 0 {
		return false
	}
	switch m.state {
	case forNext, inNought, inWhole, inBroken, inPowerDigits:
		return true
	}
	return false
}

func modelRead(s string) (api.Json, int, api.Errno) {
	if len(s) > 16384 {
		return api.Json{}, 0, api.ErrText
	}
	var m machine
	for i := range len(s) {
		if e := m.feed(s[i]); e != api.OK {
			return api.Json{}, i, e
		}
	}
	if !m.ended() {
		return api.Json{}, len(s), api.ErrJson
	}
	return modelWorth(s), 0, api.OK
}

// modelWorth is what the library makes of a text that may be.
func modelWorth(s string) api.Json {
	d := json.NewDecoder(strings.NewReader(s))
	d.UseNumber()
	return decoded(d)
}

func token(d *json.Decoder) json.Token {
	t, err := d.Token()
	if err != nil {
		panic(err)
	}
	return t
}

func decoded(d *json.Decoder) api.Json {
	switch x := token(d).(type) {
	case bool:
		return api.Json{Kind: 1, Bool: x}
	case json.Number:
		return modelNumber(string(x))
	case string:
		return api.Json{Kind: 4, Text: x}
	case json.Delim:
		v := api.Json{Kind: 5}
		if x == '{' {
			v.Kind = 6
		}
		for d.More() {
			if x == '{' {
				v.Names = append(v.Names, token(d).(string))
			}
			v.Items = append(v.Items, decoded(d))
		}
		token(d)
		return v
	}
	return api.Json{}
}

var (
	numbers  = regexp.MustCompile(`^-?(0|[1-9][0-9]*)(\.[0-9]+)?([eE][+-]?[0-9]+)?$`)
	integers = regexp.MustCompile(`^(0|-?[1-9][0-9]*)$`)
)

// modelNumber is the value of a number as the grammar has it.
func modelNumber(s string) api.Json {
	if n, is := new(big.Int).SetString(s, 10); is && integers.MatchString(s) && n.IsInt64() {
		return api.Json{Kind: 2, Int: n.Int64()}
	}
	return api.Json{Kind: 3, Text: s}
}

func modelWellFormed(s string) bool {
	for i := 0; i < len(s); {
		l := tails(s[i])
		if s[i] >= 0x80 && l == nil || len(s)-i-1 < len(l) {
			return false
		}
		for j, some := range l {
			if !in(s[i+1+j], some) {
				return false
			}
		}
		i += 1 + len(l)
	}
	return true
}

// modelCheck goes through all values in the order in which they are told, and asks of each all that may be wrong.
func modelCheck(v api.Json) api.Errno {
	type part struct {
		v     api.Json
		depth int
	}
	// The next one is the last of todo.
	for todo := []part{{v, 1}}; len(todo) > 0; {
		p := todo[len(todo)-1]
		todo = todo[:len(todo)-1]
		if l := modelFaults(p.v, p.depth); len(l) > 0 {
			return l[0]
		}
		for i := len(p.v.Items) - 1; i >= 0; i-- {
			todo = append(todo, part{p.v.Items[i], p.depth + 1})
		}
	}
	return api.OK
}

// modelFaults are all faults of a value alone, in their order.
func modelFaults(v api.Json, depth int) []api.Errno {
	var l []api.Errno
	ask := func(wrong bool, e api.Errno) {
		if wrong {
			l = append(l, e)
		}
	}
	nest := v.Kind == 5 || v.Kind == 6
	ask(v.Kind > 6, api.ErrBad)
	ask(v.Bool && v.Kind != 1, api.ErrBad)
	ask(v.Int != 0 && v.Kind != 2, api.ErrBad)
	ask(v.Text != "" && v.Kind != 3 && v.Kind != 4, api.ErrBad)
	ask(len(v.Items) != 0 && !nest, api.ErrBad)
	ask(len(v.Names) != 0 && v.Kind != 6, api.ErrBad)
	ask(v.Kind == 3 && (len(v.Text) > 16384 || !numbers.MatchString(v.Text) || modelNumber(v.Text).Kind == 2), api.ErrBad)
	ask(v.Kind == 6 && len(v.Names) != len(v.Items), api.ErrBad)
	ask(v.Kind == 4 && (len(v.Text) > 16384 || !modelWellFormed(v.Text)), api.ErrText)
	ask(nest && depth > 32, api.ErrDepth)
	ask(len(v.Items) > 1024, api.ErrMany)
	ahead := map[string]bool{}
	for _, n := range v.Names {
		ask(len(n) > 16384 || !modelWellFormed(n), api.ErrText)
		ask(ahead[n], api.ErrBad)
		ahead[n] = true
	}
	return l
}

func modelText(v api.Json) (string, api.Errno) {
	if e := modelCheck(v); e != api.OK {
		return "", e
	}
	if s := modelWritten(v); len(s) <= 16384 {
		return s, api.OK
	}
	return "", api.ErrText
}

func modelWritten(v api.Json) string {
	var items []string
	for i, x := range v.Items {
		s := modelWritten(x)
		if v.Kind == 6 {
			s = modelQuoted(v.Names[i]) + ":" + s
		}
		items = append(items, s)
	}
	return []string{"null", fmt.Sprint(v.Bool), fmt.Sprint(v.Int), v.Text, modelQuoted(v.Text), "[" + strings.Join(items, ",") + "]", "{" + strings.Join(items, ",") + "}"}[v.Kind]
}

func modelQuoted(s string) string {
	l := []string{`\`, `\\`, `"`, `\"`}
	for c := range 32 {
		told := fmt.Sprintf(`\u%04x`, c)
		if at := strings.Index("\b\t\n\f\r", string(rune(c))); at >= 0 {
			told = `\` + "btnfr"[at:at+1]
		}
		l = append(l, string(rune(c)), told)
	}
	return `"` + strings.NewReplacer(l...).Replace(s) + `"`
}

// modelSame holds two values against each other as they are shown, field by field.
func modelSame(a, b api.Json) bool { return shown(a) == shown(b) }

// shown tells all fields of a value; a list without elements is shown as one that is not there.
func shown(v api.Json) string {
	s := fmt.Sprintf("%d %t %d %q %q (", v.Kind, v.Bool, v.Int, v.Text, v.Names)
	for _, x := range v.Items {
		s += shown(x) + ";"
	}
	return s + ")"
}

func modelPut(v api.Json, name string, x api.Json) (api.Json, api.Errno) {
	if e := modelCheck(v); e != api.OK {
		return api.Json{}, e
	}
	if v.Kind != 6 {
		return api.Json{}, api.ErrBad
	}
	if len(name) > 16384 || !modelWellFormed(name) {
		return api.Json{}, api.ErrText
	}
	out := api.Json{Kind: 6}
	there := false
	for i, n := range v.Names {
		out.Names = append(out.Names, n)
		if n == name {
			there = true
			out.Items = append(out.Items, x)
		} else {
			out.Items = append(out.Items, v.Items[i])
		}
	}
	if !there {
		out.Names, out.Items = append(out.Names, name), append(out.Items, x)
	}
	if e := modelCheck(out); e != api.OK {
		return api.Json{}, e
	}
	return out, api.OK
}
