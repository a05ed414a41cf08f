package json

import (
	"encoding/json"
	"fmt"
	"math"
	"strings"
	"testing"
	"unicode/utf8"

	"docket/api"
)

func list(l ...api.Json) api.Json { return api.Json{Kind: api.List, Items: l} }

// object is made of names and values in turn.
func object(l ...any) api.Json {
	v := api.Json{Kind: api.Object}
	for i := 0; i < len(l); i += 2 {
		v.Names, v.Items = append(v.Names, l[i].(string)), append(v.Items, l[i+1].(api.Json))
	}
	return v
}

func number(s string) api.Json { return api.Json{Kind: api.Number, Text: s} }
func text(s string) api.Json   { return api.Json{Kind: api.Text, Text: s} }
func whole(n int64) api.Json   { return api.Json{Kind: api.Int, Int: n} }
func truth(b bool) api.Json    { return api.Json{Kind: api.Bool, Bool: b} }

// held is what Read answers, held against the model, and against the rule of what stands ahead of a place.
func held(t *testing.T, s string) (api.Json, int, api.Errno) {
	t.Helper()
	v, at, e := Read(s)
	wantV, wantAt, wantE := modelRead(s)
	if at != wantAt || e != wantE || !modelSame(v, wantV) {
		t.Fatalf("Read(%.200q) is %.200s at %d, %d, not %.200s at %d, %d", s, shown(v), at, e, shown(wantV), wantAt, wantE)
	}
	if e != api.OK {
		if _, before, e := Read(s[:at]); e != api.OK && before != at {
			t.Fatalf("Read(%.200q) is refused at %d, what stands ahead at %d by %d", s, at, before, e)
		}
	}
	return v, at, e
}

func wantRead(t *testing.T, s string, want api.Json) {
	t.Helper()
	if v, at, e := held(t, s); e != api.OK || at != 0 || !modelSame(v, want) {
		t.Errorf("Read(%.200q) is %.200s at %d, %d, not %.200s", s, shown(v), at, e, shown(want))
	}
}

func wantRefused(t *testing.T, s string, at int, e api.Errno) {
	t.Helper()
	if v, gotAt, gotE := held(t, s); gotE != e || gotAt != at || !modelSame(v, api.Json{}) {
		t.Errorf("Read(%.200q) is %.200s at %d, %d, not refused at %d by %d", s, shown(v), gotAt, gotE, at, e)
	}
}

// wantEnd asks that s is the beginning of a text and none itself.
func wantEnd(t *testing.T, s string) {
	t.Helper()
	wantRefused(t, s, len(s), api.ErrJson)
}

func TestReadExamples(t *testing.T) {
	wantRead(t, "[1, -0, 1.0, 9223372036854775808]", list(whole(1), number("-0"), number("1.0"), number("9223372036854775808")))
	wantRefused(t, `{"a":1,"a":2}`, 9, api.ErrJson)
	wantRefused(t, "[1,]", 3, api.ErrJson)
	wantRefused(t, "01", 1, api.ErrJson)
	wantRefused(t, `"\ud800x"`, 7, api.ErrJson)
	wantRefused(t, "[", 1, api.ErrJson)
	wantRead(t, `"\ud83d\ude00"`, text("\U0001F600"))
}

// kinds has one text of each kind, with what it is worth.
func kinds() []struct {
	s string
	v api.Json
} {
	return []struct {
		s string
		v api.Json
	}{
		{"null", api.Json{}}, {"true", truth(true)}, {"false", truth(false)}, {"0", whole(0)}, {"-17", whole(-17)}, {"2.50", number("2.50")}, {"1e5", number("1e5")},
		{`""`, text("")}, {`"a b"`, text("a b")}, {"[]", list()}, {"[1]", list(whole(1))}, {"{}", object()}, {`{"a":1}`, object("a", whole(1))},
		{`[null,[true],{"x":"y"},-1.5]`, list(api.Json{}, list(truth(true)), object("x", text("y")), number("-1.5"))},
		{`{"b":[],"a":{"a":null},"":""}`, object("b", list(), "a", object("a", api.Json{}), "", text(""))},
	}
}

func TestReadEachKind(t *testing.T) {
	for _, c := range kinds() {
		wantRead(t, c.s, c.v)
		for _, d := range kinds() {
			wantRead(t, "["+c.s+","+d.s+"]", list(c.v, d.v))
			wantRead(t, `{"x":`+c.s+`,"y":`+d.s+"}", object("x", c.v, "y", d.v))
		}
		// Nothing may stand behind the value, not a second one either.
		wantRefused(t, c.s+" "+c.s, len(c.s)+1, api.ErrJson)
		for _, more := range []string{"]", "}", ",", ":", `"`, "n", "x", "\x00"} {
			wantRefused(t, c.s+more, len(c.s), api.ErrJson)
		}
	}
}

// pieces are the signs and values of a text: between any two, ahead of and behind all of them, blanks may stand.
var pieces = []string{"{", `"a"`, ":", "[", "1", ",", "-2.5", ",", "null", "]", ",", `"b"`, ":", "{", "}", ",", `"c"`, ":", "[", "]", ",", `"d"`, ":", "true", "}"}

func TestReadBlanks(t *testing.T) {
	want := object("a", list(whole(1), number("-2.5"), api.Json{}), "b", object(), "c", list(), "d", truth(true))
	for at := 0; at <= len(pieces); at++ {
		ahead, behind := strings.Join(pieces[:at], ""), strings.Join(pieces[at:], "")
		for c := range 256 {
			s := ahead + string([]byte{byte(c)}) + behind
			if c == 9 || c == 10 || c == 13 || c == 32 {
				wantRead(t, s, want)
			} else {
				held(t, s)
			}
		}
		// Not even what looks like a blank elsewhere.
		for _, other := range []string{"\x0b", "\x0c", "\x00", "\x1f", "\x7f", "\xc2\xa0", "\xe2\x80\xa8", "\xef\xbb\xbf", "/**/", "_"} {
			wantRefused(t, ahead+other+behind, len(ahead), api.ErrJson)
		}
		wantRead(t, ahead+" \t\r\n \n"+behind, want)
	}
	wantRead(t, " "+strings.Join(pieces, "\n\t ")+"\r", want)
	for _, s := range []string{" ", "\n\n", "[ ", "[1 ", "[1, ", "{ ", `{"a" `, `{"a" : `, `{"a" : 1 `, `{"a" : 1 , `} {
		wantEnd(t, s)
	}
	// Within words and numbers a blank is no blank.
	for _, s := range []string{"nu ll", "tr\tue", "fals\ne", "- 1", "1. 5", "1 .5", "1e 5", "1 e5", "1e+ 5", "1 2"} {
		if _, at, e := held(t, s); e != api.ErrJson || at == 0 {
			t.Errorf("%q: %d, %d", s, at, e)
		}
	}
}

func TestReadWords(t *testing.T) {
	for _, w := range []string{"null", "true", "false"} {
		for at := range len(w) {
			wantEnd(t, w[:at])
			for c := range 256 {
				if byte(c) != w[at] && at > 0 {
					wantRefused(t, w[:at]+string([]byte{byte(c)})+w[at+1:], at, api.ErrJson)
				}
			}
		}
		wantRefused(t, strings.ToUpper(w), 0, api.ErrJson)
		wantRefused(t, w+"s", len(w), api.ErrJson)
	}
	for c := range 256 {
		held(t, string([]byte{byte(c)}))
	}
	for _, s := range []string{"+1", ".5", "NaN", "Infinity", "undefined", "'a'", "]", "}", ",", ":", "\\", "x", "\xef\xbb\xbf1", "\x80"} {
		wantRefused(t, s, 0, api.ErrJson)
	}
}

func TestReadNumbers(t *testing.T) {
	for _, n := range []int64{0, 1, -1, 9, 10, -10, 123, math.MaxInt32, math.MinInt32, math.MaxInt64, math.MinInt64, math.MaxInt64 - 1, math.MinInt64 + 1} {
		wantRead(t, fmt.Sprint(n), whole(n))
	}
	for _, s := range []string{
		"-0", "0.0", "-0.0", "1.0", "-1.50", "0.25", "10.000", "0e0", "-0e0", "1e5", "1E5", "1e+5", "1E+5", "1e-5", "1E-5", "1.5e10", "-1.50E-00", "1e005", "0.0e+0", "1e999", "1e-999",
		"9223372036854775808", "-9223372036854775809", "18446744073709551616", "99999999999999999999", "-99999999999999999999", "9223372036854775807.0", "9223372036854775807e0",
		strings.Repeat("9", 16384), "-" + strings.Repeat("1", 16383), "0." + strings.Repeat("0", 16382), "1e" + strings.Repeat("0", 16382),
	} {
		wantRead(t, s, number(s))
	}
	for _, c := range []struct {
		s  string
		at int
	}{
		{"01", 1}, {"00", 1}, {"-01", 2}, {"-00", 2}, {"-", 1}, {"--1", 1}, {"-+1", 1}, {"-.5", 1}, {"-e5", 1}, {"-a", 1}, {"- 1", 1}, {"+1", 0}, {".5", 0}, {"e5", 0}, {"E5", 0},
		{"1.", 2}, {"1.e5", 2}, {"1..5", 2}, {"1.-5", 2}, {"1.x", 2}, {"0.", 2}, {"-1.", 3}, {"1.5.5", 3}, {"1.5.", 3},
		{"1e", 2}, {"1E", 2}, {"1e+", 3}, {"1e-", 3}, {"1E-", 3}, {"1ee5", 2}, {"1e++5", 3}, {"1e+-5", 3}, {"1e.5", 2}, {"1e5.5", 3}, {"1e5e5", 3}, {"1.5e", 4}, {"1ex", 2},
		{"1a", 1}, {"1-", 1}, {"1+1", 1}, {"0x10", 1}, {"1_0", 1}, {"1f", 1}, {"0-", 1}, {"1:", 1}, {"1\x00", 1},
	} {
		wantRefused(t, c.s, c.at, api.ErrJson)
		wantRefused(t, "["+c.s+" ", 1+c.at, api.ErrJson)
	}
}

// A number's Text is as it stands, wherever it stands.
func TestReadNumbersWithin(t *testing.T) {
	wantRead(t, `[-0,1E5 ,{"a":1.0}]`, list(number("-0"), number("1E5"), object("a", number("1.0"))))
	wantRead(t, "[9223372036854775807,9223372036854775808,-9223372036854775808,-9223372036854775809]",
		list(whole(math.MaxInt64), number("9223372036854775808"), whole(math.MinInt64), number("-9223372036854775809")))
}

func TestReadEscapes(t *testing.T) {
	wantRead(t, `"\"\\\/\b\f\n\r\t"`, text("\"\\/\b\f\n\r\t"))
	told := map[byte]string{'"': `"`, '\\': `\`, '/': "/", 'b': "\x08", 'f': "\x0c", 'n': "\x0a", 'r': "\x0d", 't': "\x09"}
	for c := range 256 {
		s := `"a\` + string([]byte{byte(c)})
		want, is := told[byte(c)]
		switch {
		case is:
			wantRead(t, s+`z"`, text("a"+want+"z"))
		case c == 'u':
			wantEnd(t, s)
		default:
			wantRefused(t, s+`z"`, 3, api.ErrJson)
		}
	}
	wantEnd(t, `"\`)
	wantEnd(t, `"\"`)
	wantEnd(t, `"\\\"`)
	wantRead(t, `"\\u0041"`, text(`\u0041`))
}

// Every character by its four sixteens: those of halves are refused at the first sixteen that tells.
func TestReadSixteens(t *testing.T) {
	for c := range 0x10000 {
		s := fmt.Sprintf(`"\u%04x"`, c)
		if c%3 == 0 {
			s = fmt.Sprintf(`"\u%04X"`, c)
		}
		switch {
		case c >= 0xd800 && c <= 0xdbff:
			wantRefused(t, s, 7, api.ErrJson)
		case c >= 0xdc00 && c <= 0xdfff:
			wantRefused(t, s, 4, api.ErrJson)
		default:
			wantRead(t, s, text(string(rune(c))))
		}
	}
	wantRead(t, `"\u00e9\u00E9\uFfFf\uabCD"`, text("éé\uffff\uabcd"))
	wantRead(t, `"\u0000\u001f\u007f\uD7ff\ue000\ufffd"`, text("\x00\x1f\x7f\ud7ff\ue000\ufffd"))
	for at := range 4 {
		whole := "00e9"
		for c := range 256 {
			s := `"\u` + whole[:at] + string([]byte{byte(c)}) + whole[at+1:] + `"`
			if !in(byte(c), anySixteen) {
				wantRefused(t, s, 3+at, api.ErrJson)
			} else {
				held(t, s)
			}
		}
		wantEnd(t, `"\u`+whole[:at])
		wantRefused(t, `"\u`+whole[:at]+`"`, 3+at, api.ErrJson)
	}
	wantRefused(t, `"\U0041"`, 2, api.ErrJson)
	wantRefused(t, `"\u{41}"`, 3, api.ErrJson)
	wantRefused(t, `"\u+041"`, 3, api.ErrJson)
}

func TestReadPairs(t *testing.T) {
	for c := rune(0x10000); c <= 0x10ffff; c += 251 {
		high, low := 0xd800+(c-0x10000)>>10, 0xdc00+(c-0x10000)&0x3ff
		for _, form := range []string{`"\u%04x\u%04x"`, `"\u%04X\u%04X"`, `"\u%04x\u%04X"`} {
			if v, at, e := Read(fmt.Sprintf(form, high, low)); e != api.OK || at != 0 || !modelSame(v, text(string(c))) {
				t.Fatalf("%x: %s, %d, %d", c, shown(v), at, e)
			}
		}
	}
	wantRead(t, `"\ud800\udc00"`, text("\U00010000"))
	wantRead(t, `"\uDBFF\uDFFF"`, text("\U0010ffff"))
	wantRead(t, `"x\ud83d\uDE00y\uD83D\ude01"`, text("x\U0001F600y\U0001F601"))
	for _, c := range []struct {
		s  string
		at int
	}{
		{`"\ud800"`, 7}, {`"\udbff"`, 7}, {`"\ud800x"`, 7}, {`"\ud800 \udc00"`, 7}, {`"\ud800\n"`, 8}, {`"\ud800\\"`, 8}, {`"\ud800\""`, 8}, {`"\ud800\Udc00"`, 8}, {`"\ud800/"`, 7},
		{`"\ud800\u0041"`, 9}, {`"\ud800\ue000"`, 9}, {`"\ud800\uc000"`, 9}, {`"\ud800\u"`, 9}, {`"\ud800\ux"`, 9},
		{`"\ud800\ud800"`, 10}, {`"\ud800\udbff"`, 10}, {`"\ud800\ud7ff"`, 10}, {`"\ud800\ud"`, 10}, {`"\ud800\udg00"`, 10}, {`"\ud800\udcg0"`, 11}, {`"\ud800\udc0g"`, 12}, {`"\ud800\udc0"`, 12},
		{`"\udc00"`, 4}, {`"\udfff"`, 4}, {`"\uDC00"`, 4}, {`"\uDf00"`, 4}, {`"\ude00\ud83d"`, 4}, {`"\ud83d\ude00\ude00"`, 16}, {`"\ud83d\ude00\ud83d"`, 19},
	} {
		wantRefused(t, c.s, c.at, api.ErrJson)
	}
	pair := `"\ud83d\ude00`
	for at := range len(pair) + 1 {
		wantEnd(t, pair[:at])
	}
	// Bytes of a character that stands for itself are no second half.
	wantRefused(t, "\"\\ud83d\U0001F600\"", 7, api.ErrJson)
}

func TestReadBytesOfTexts(t *testing.T) {
	for c := range 0x80 {
		s := `"a` + string([]byte{byte(c)}) + `z"`
		switch {
		case c < 32:
			wantRefused(t, s, 2, api.ErrJson)
		case c == '"':
			wantRefused(t, s, 3, api.ErrJson)
		case c == '\\':
			wantRefused(t, s, 3, api.ErrJson)
		default:
			wantRead(t, s, text("a"+string(rune(c))+"z"))
		}
	}
	wantRead(t, "\"\x7fé\u2028\u2029\ufeff\ufffd\uffff\U0001F600\U0010ffff\"", text("\x7fé\u2028\u2029\ufeff\ufffd\uffff\U0001F600\U0010ffff"))
}

// Each way in which bytes are not well-formed, beside its neighbour that is.
func TestReadBytesThatAreNotWellFormed(t *testing.T) {
	for _, c := range []struct {
		s  string
		at int // below 0: well-formed
	}{
		{"\x7f", -1}, {"\x80", 0}, {"\xbf", 0}, {"\xc0\x80", 0}, {"\xc1\xbf", 0}, {"\xc2\x80", -1}, {"\xc2\x7f", 1}, {"\xc2\xc0", 1}, {"\xdf\xbf", -1}, {"\xdf\xc0", 1}, {"\xc2 ", 1}, {"\xc2", 1},
		{"\xe0\x80\x80", 1}, {"\xe0\x9f\xbf", 1}, {"\xe0\xa0\x80", -1}, {"\xe0\xa0\x7f", 2}, {"\xe0\xc0\x80", 1}, {"\xe1\x80\x80", -1}, {"\xe1\x7f\x80", 1}, {"\xe1\x80\xc0", 2}, {"\xe1\x80", 2}, {"\xe1", 1},
		{"\xec\xbf\xbf", -1}, {"\xed\x9f\xbf", -1}, {"\xed\xa0\x80", 1}, {"\xed\xad\xbf", 1}, {"\xed\xb0\x80", 1}, {"\xed\xbf\xbf", 1}, {"\xed\xa0\xbd\xed\xb8\x80", 1}, {"\xee\x80\x80", -1}, {"\xef\xbf\xbf", -1}, {"\xef\xbf\xbd", -1},
		{"\xf0\x80\x80\x80", 1}, {"\xf0\x8f\xbf\xbf", 1}, {"\xf0\x90\x80\x80", -1}, {"\xf0\x90\x80\x7f", 3}, {"\xf0\x90\xc0\x80", 2}, {"\xf0\x90\x80", 3}, {"\xf0\x90", 2}, {"\xf0", 1},
		{"\xf1\x80\x80\x80", -1}, {"\xf3\xbf\xbf\xbf", -1}, {"\xf4\x8f\xbf\xbf", -1}, {"\xf4\x90\x80\x80", 1}, {"\xf4\xbf\xbf\xbf", 1}, {"\xf5\x80\x80\x80", 0}, {"\xf7\xbf\xbf\xbf", 0}, {"\xf8\x88\x80\x80\x80", 0}, {"\xfc\x84\x80\x80\x80\x80", 0}, {"\xfe", 0}, {"\xff", 0},
	} {
		for _, ahead := range []string{"", "a", "é", "\U0001F600", `\n`} {
			for _, around := range [][2]string{{"", ""}, {"[", "]"}, {`{"k":`, "}"}, {"{", ":1}"}} {
				s := around[0] + `"` + ahead + c.s + `"` + around[1]
				if c.at < 0 {
					if v, at, e := held(t, s); e != api.OK || at != 0 {
						t.Errorf("%q: %s, %d, %d", s, shown(v), at, e)
					}
				} else {
					wantRefused(t, s, len(around[0])+1+len(ahead)+c.at, api.ErrJson)
				}
			}
		}
		if c.at > 0 {
			wantEnd(t, `"`+c.s[:c.at])
		}
	}
}

func TestReadLists(t *testing.T) {
	wantRead(t, "[]", list())
	wantRead(t, "[1]", list(whole(1)))
	wantRead(t, `[1,"a",null]`, list(whole(1), text("a"), api.Json{}))
	wantRead(t, "[[],[[]],[1,[2]]]", list(list(), list(list()), list(whole(1), list(whole(2)))))
	for _, c := range []struct {
		s  string
		at int
	}{
		{"[,]", 1}, {"[,1]", 1}, {"[1,]", 3}, {"[1,,2]", 3}, {"[1 2]", 3}, {"[1[", 2}, {"[[]1", 3}, {"[[][", 3}, {"[1:2]", 2}, {"[1}", 2}, {"[}", 1}, {`["a":1]`, 4}, {"[1;2]", 2}, {"[]]", 2}, {"[],", 2}, {"[1]2", 3}, {"]", 0}, {`["a""b"]`, 4}, {"[null null", 6}, {"[x]", 1}, {"[:", 1},
	} {
		wantRefused(t, c.s, c.at, api.ErrJson)
	}
}

func TestReadObjects(t *testing.T) {
	wantRead(t, "{}", object())
	wantRead(t, `{"a":1}`, object("a", whole(1)))
	wantRead(t, `{"b":1,"a":2,"":3,"A":4}`, object("b", whole(1), "a", whole(2), "", whole(3), "A", whole(4)))
	wantRead(t, `{"a":{"a":{"a":1}},"b":{"a":2}}`, object("a", object("a", object("a", whole(1))), "b", object("a", whole(2))))
	wantRead(t, `{"\u0061\n\ud83d\ude00":1,"é":2}`, object("a\n\U0001F600", whole(1), "é", whole(2)))
	for _, c := range []struct {
		s  string
		at int
	}{
		{"{,}", 1}, {`{,"a":1}`, 1}, {`{"a":1,}`, 7}, {`{"a":1,,"b":2}`, 7}, {`{"a":1 "b":2}`, 7}, {`{"a" 1}`, 5}, {`{"a"}`, 4}, {`{"a",`, 4}, {`{"a":}`, 5}, {`{"a":,`, 5}, {`{"a"::`, 5}, {`{:1}`, 1}, {`{a:1}`, 1}, {`{1:1}`, 1}, {`{null:1}`, 1}, {`{[]:1}`, 1}, {`{{}:1}`, 1}, {`{'a':1}`, 1},
		{`{"a":1]`, 6}, {`{]`, 1}, {`{"a":1:`, 6}, {`{"a"=1}`, 4}, {`{}}`, 2}, {`{},`, 2}, {`{"a":1}{`, 7}, {`{"a":1,1:2}`, 7}, {`{"a":1,b`, 7}, {`{"a""b"`, 4}, {`{"a":1,[`, 7}, {`{"a":1,{`, 7}, {`}`, 0},
	} {
		wantRefused(t, c.s, c.at, api.ErrJson)
	}
}

func TestReadNamesThatAreThere(t *testing.T) {
	for _, c := range []struct {
		s  string
		at int
	}{
		{`{"a":1,"a":2}`, 9}, {`{"":1,"":2}`, 7}, {`{"a":1,"\u0061":2}`, 14}, {`{"\u0061":1,"a":2}`, 14}, {`{"\n":1,"\u000a":2}`, 15}, {`{"\u000A":1,"\n":2}`, 15}, {`{"/":1,"\/":2}`, 10},
		{`{"é":1,"\u00E9":2}`, 15}, {"{\"\\ud83d\\ude00\":1,\"\U0001F600\":2}", 23}, {`{"a":1,"b":2,"a":3}`, 15}, {`{"a":1,"b":2,"b":3}`, 15}, {`{"a":{},"b":{"a":1,"a":2}}`, 21}, {`[{"a":1,"a"`, 10},
		{`{"a":1,"a"`, 9}, {`{"a":1,"a"x`, 9}, {`{ "a" : 1 , "a" : 2 }`, 14},
	} {
		wantRefused(t, c.s, c.at, api.ErrJson)
		wantEnd(t, c.s[:c.at])
		// A name that goes on is another one.
		wantEnd(t, c.s[:c.at]+`x":0`)
	}
	wantRead(t, `{"a":1,"a ":2," a":3,"aa":4,"A":5,"a\u0000":6,"\\u0061":7}`, object("a", whole(1), "a ", whole(2), " a", whole(3), "aa", whole(4), "A", whole(5), "a\x00", whole(6), `\u0061`, whole(7)))
	// Two ways of writing a sign with a mark are two names.
	wantRead(t, "{\"é\":1,\"e\u0301\":2}", object("é", whole(1), "e\u0301", whole(2)))
	// The same name in another object is another thing.
	wantRead(t, `[{"a":1},{"a":{"a":[{"a":2}]}}]`, list(object("a", whole(1)), object("a", object("a", list(object("a", whole(2)))))))
}

// nested are n lists (l) or objects (o) or both in turn (m) one within another, their closing brackets, and the value.
func nested(form byte, n int, core string, v api.Json) (string, string, api.Json) {
	ahead, behind := "", ""
	for i := range n {
		if form == 'l' || form == 'm' && i%2 == 0 {
			ahead, behind = ahead+"[", "]"+behind
		} else {
			ahead, behind = ahead+`{"a":`, "}"+behind
		}
	}
	for i := n - 1; i >= 0; i-- {
		if form == 'l' || form == 'm' && i%2 == 0 {
			v = list(v)
		} else {
			v = object("a", v)
		}
	}
	return ahead + core, behind, v
}

func TestReadDepth(t *testing.T) {
	for _, form := range []byte("lom") {
		for _, n := range []int{1, 2, 30, 31} {
			for _, core := range []string{"[]", "{}"} {
				v := list()
				if core == "{}" {
					v = object()
				}
				ahead, behind, want := nested(form, n, core, v)
				wantRead(t, ahead+behind, want)
			}
		}
		// At depth 33 stands what is no list and no object.
		for _, c := range kinds() {
			ahead, behind, want := nested(form, 32, c.s, c.v)
			if c.v.Kind == api.List || c.v.Kind == api.Object {
				wantRefused(t, ahead+behind, len(ahead)-len(c.s), api.ErrDepth)
			} else {
				wantRead(t, ahead+behind, want)
			}
		}
		for _, more := range []string{"[", "{", "[]", "{x", "[[[[[[", "{{"} {
			for _, blank := range []string{"", " ", "\n\t"} {
				ahead, _, _ := nested(form, 32, blank, api.Json{})
				wantRefused(t, ahead+more, len(ahead), api.ErrDepth)
				wantEnd(t, ahead)
			}
		}
		// A bracket that could not stand there anyway is no matter of depth.
		ahead, _, _ := nested(form, 32, "1", api.Json{})
		for _, more := range []string{"[", "{"} {
			wantRefused(t, ahead+more, len(ahead), api.ErrJson)
		}
	}
	wantRefused(t, strings.Repeat("[", 31)+"{[", 32, api.ErrJson)
	wantRefused(t, strings.Repeat("[", 31)+"{{", 32, api.ErrJson)
	wantRefused(t, strings.Repeat("[", 31)+`{"a":1,[`, 38, api.ErrJson)
	wantRefused(t, strings.Repeat("[", 32)+"][", 33, api.ErrJson)
	wantRefused(t, strings.Repeat("[", 32)+"1,[", 34, api.ErrDepth)
	wantRefused(t, strings.Repeat("[", 31)+`{"a":1,"b":{`, 42, api.ErrDepth)
	wantRefused(t, strings.Repeat("[", 40), 32, api.ErrDepth)
	wantRefused(t, strings.Repeat(`{"a":`, 40), 160, api.ErrDepth)
	wantRefused(t, strings.Repeat("[", 16384), 32, api.ErrDepth)
	// What was closed counts no more.
	wantRead(t, "["+strings.Repeat("[[]],", 400)+"0]", list(append(rep(400, list(list())), whole(0))...))
	deep := strings.Repeat("[", 32) + strings.Repeat("]", 31)
	wantRefused(t, deep+","+strings.Repeat("[", 32), len(deep)+32, api.ErrDepth)
}

func rep(n int, v api.Json) []api.Json {
	l := make([]api.Json, n)
	for i := range l {
		l[i] = v
	}
	return l
}

// namedItems are the pairs 0:0 up to n - 1, each name short enough that MaxText is not reached.
func namedItems(n int) string {
	var l []string
	for i := range n {
		l = append(l, fmt.Sprintf(`"%x":0`, i))
	}
	return strings.Join(l, ",")
}

func TestReadMany(t *testing.T) {
	for _, n := range []int{1, 2, 1023, 1024} {
		items := strings.Repeat("0,", n-1) + "0"
		wantRead(t, "["+items+"]", list(rep(n, whole(0))...))
		named := object()
		for i := range n {
			named.Names, named.Items = append(named.Names, fmt.Sprintf("%x", i)), append(named.Items, whole(0))
		}
		wantRead(t, "{"+namedItems(n)+"}", named)
		wantRead(t, "[[1],["+items+"],[2]]", list(list(whole(1)), list(rep(n, whole(0))...), list(whole(2))))
	}
	full := "[" + strings.Repeat("0,", 1023) + "0"
	fullObject := "{" + namedItems(1024)
	for _, s := range []string{full, fullObject, "[" + full, `{"a":` + full, "[1," + fullObject, strings.Repeat("[", 31) + full} {
		wantEnd(t, s)
		for _, more := range []string{",", ",0", ",]", ",}", ",,", `,"x":0}`, ",[", ",x"} {
			wantRefused(t, s+more, len(s), api.ErrMany)
			wantRefused(t, s+" \n"+more, len(s)+2, api.ErrMany)
		}
		for _, more := range []string{"x", ":", "[", "{", " 1", "\x00"} {
			at := len(s) + len(more) - 1
			wantRefused(t, s+more, at, api.ErrJson)
		}
	}
	wantRefused(t, full+"}", len(full), api.ErrJson)
	wantRefused(t, fullObject+"]", len(fullObject), api.ErrJson)
	// The list about it has room.
	wantRead(t, "["+full+"],1]", list(list(rep(1024, whole(0))...), whole(1)))
	wantRefused(t, strings.Replace(full, "0,0", "0,,0", 1), 3, api.ErrJson)
}

// A text that ends too early at every place is refused just there; the whole one is read.
func TestReadEndsTooEarly(t *testing.T) {
	whole := ` {"a\n\u00e9\ud83d\ude00" : [ null , true,false,-1.5e+3 ,"é` + "\U0001F600" + `",{ } , [ ]] , "b":{"c":[[0]]}}`
	if _, _, e := held(t, whole); e != api.OK {
		t.Fatal(e)
	}
	for n := range len(whole) {
		wantEnd(t, whole[:n])
	}
	for _, c := range kinds() {
		for n := range len(c.s) {
			if _, at, e := held(t, c.s[:n]); e != api.OK && (at != n || e != api.ErrJson) {
				t.Errorf("%q: %d, %d", c.s[:n], at, e)
			}
		}
	}
	wantEnd(t, "")
}

func TestReadLongTexts(t *testing.T) {
	fill := func(n int) string { return strings.Repeat("x", n) }
	wantRead(t, `"`+fill(16382)+`"`, text(fill(16382)))
	wantRead(t, strings.Repeat(" ", 16383)+"1", whole(1))
	wantRead(t, "1"+strings.Repeat("\n", 16383), whole(1))
	wantRead(t, "["+strings.Repeat(" ", 16382)+"]", list())
	wantRead(t, `{"`+fill(16378)+`":1}`, object(fill(16378), whole(1)))
	wantEnd(t, strings.Repeat(" ", 16384))
	wantEnd(t, `"`+fill(16383))
	for _, s := range []string{`"` + fill(16383) + `"`, strings.Repeat(" ", 16384) + "1", "1" + strings.Repeat(" ", 16384), strings.Repeat("[", 16385), strings.Repeat("x", 16385), strings.Repeat("\xff", 1<<17), "[" + strings.Repeat("0,", 9000) + "0]"} {
		wantRefused(t, s, 0, api.ErrText)
	}
	// A refusal at the last place that there can be.
	wantRefused(t, strings.Repeat(" ", 16383)+"x", 16383, api.ErrJson)
}

// walk reads each text that begins so and goes on by the bytes of some, as far as it is the beginning of one that may be.
func walk(t *testing.T, s string, some string, longest int) int {
	_, at, e := held(t, s)
	n := 1
	if e != api.OK && at < len(s) {
		// What stands behind a refusal changes nothing.
		for _, more := range []string{some, `"]}`, "\x00", " 1"} {
			if _, again, f := Read(s + more); again != at || f != e {
				t.Fatalf("Read(%q) is refused at %d by %d", s+more, again, f)
			}
		}
		return n
	}
	if len(s) == longest {
		return n
	}
	for i := range len(some) {
		n += walk(t, s+some[i:i+1], some, longest)
	}
	return n
}

// All texts of few signs, each held against the model.
func TestReadAllShortTexts(t *testing.T) {
	for _, c := range []struct {
		begin, some string
		longest     int
	}{
		{"", "[]{},:\"a1 ", 6}, {`{"`, "{}[],:\"a0", 8}, {"[[", "[],0 ", 9}, {"", "-+.eE019 ,", 7}, {"[", "-.eE01,]", 7}, {"", "nulltrefas ", 6},
		{`"`, "\\\"u/bx\x1f ", 7}, {`"\u`, "dD8bcC07\"", 7}, {`"\ud83`, "\\ud0cF\"", 13}, {`{"a":0,"\u00`, "061\":,}", 18},
		{`"`, "\x7f\x80\x8f\x90\x9f\xa0\xbf\xc1\xc2\xdf\xe0\xe1\xed\xee\xef\xf0\xf1\xf3\xf4\xf5\xff\"", 6},
	} {
		if n := walk(t, c.begin, c.some, c.longest); n < 200 {
			t.Errorf("of %q and %q there were %d texts alone", c.begin, c.some, n)
		}
	}
}

// The model is itself held against the library: what both can tell they tell alike.
func TestModelAgainstTheLibrary(t *testing.T) {
	r := newDrawer(16)
	for range draws {
		s := r.text()
		_, _, e := modelRead(s)
		if e == api.OK && !json.Valid([]byte(s)) {
			t.Fatalf("the library refuses %q", s)
		}
		if e == api.ErrJson && json.Valid([]byte(s)) && utf8.ValidString(s) && !strings.Contains(strings.ToLower(s), `\ud`) && !namedTwice(s) {
			t.Fatalf("the library takes %q", s)
		}
		if modelWellFormed(s) != utf8.ValidString(s) {
			t.Fatalf("well-formed: %q", s)
		}
	}
}

// namedTwice tells whether an object of a text that the library takes has a name twice.
func namedTwice(s string) bool {
	var twice func(v api.Json) bool
	twice = func(v api.Json) bool {
		for i, n := range v.Names {
			for _, m := range v.Names[:i] {
				if n == m {
					return true
				}
			}
		}
		for _, x := range v.Items {
			if twice(x) {
				return true
			}
		}
		return false
	}
	return twice(modelWorth(s))
}
