package guard

import (
	"fmt"
	"math/big"
	"regexp"
	"slices"
	"sort"
	"strings"
	"unicode/utf8"

	"docket/api"
)

// What the chapter says, told once more by other means: patterns tell tokens, a machine that is fed token by token tells where a text is refused, and a row of tokens is cut at its loosest sign; kinds and worths come from a row of parts that stand behind their kids, by a stack, and from numbers without bounds. The model calls none of the package's functions.

var (
	modelTokens = regexp.MustCompile(`\A(?:(0|[1-9][0-9]*)|'([ -&(-~]*)'|([a-z][-a-z0-9_.]*)|([=<+*()-]))`)
	modelNames  = regexp.MustCompile(`\A[a-z][-a-z0-9_.]{0,31}\z`)
	modelTaken  = regexp.MustCompile(`\A(?:and|or|not|true|false|open|done)\z`)
	modelChars  = regexp.MustCompile(`\A[ -&(-~]*\z`)
	greatest    = new(big.Int).SetUint64(1<<63 - 1)
	least       = new(big.Int).Neg(new(big.Int).SetUint64(1 << 63))
)

// modelToken is a token: a name's class is n, a number's 0, a text's ', that of all others what is written; it is end at the end of the text, and ? where none begins.
type modelToken struct {
	class, text string
	at          int
}

func modelRow(s string) []modelToken {
	var l []modelToken
	for at := 0; ; {
		at += len(s[at:]) - len(strings.TrimLeft(s[at:], " "))
		m := modelTokens.FindStringSubmatch(s[at:])
		if m == nil {
			return append(l, modelToken{map[bool]string{true: "end", false: "?"}[at == len(s)], "", at})
		}
		number, word, sign := m[1], m[3], m[4]
		t := modelToken{"'", m[2], at}
		switch {
		case number != "":
			t = modelToken{"0", number, at}
			if n, _ := new(big.Int).SetString(number, 10); n.Cmp(greatest) > 0 {
				t.class = "?"
			}
		case modelTaken.MatchString(word), sign != "":
			t = modelToken{word + sign, "", at}
		case modelNames.MatchString(word):
			t = modelToken{"n", word, at}
		case word != "":
			t.class = "?"
		}
		l = append(l, t)
		if t.class == "?" {
			return l
		}
		at += len(m[0])
	}
}

// modelPlace feeds the tokens to a machine that knows which may be next; -1, if all may stand where they stand.
func modelPlace(l []modelToken) int {
	const inside = " true false 0 ' n open done ( "
	const first = " not" + inside
	may, named := first, 0
	related := []bool{false} // of each bracket that is open, and of none: whether the relation that is read has its sign
	for _, t := range l {
		if !strings.Contains(may, " "+t.class+" ") {
			return t.at
		}
		switch class := t.class; {
		case named > 1:
			named--
			may = []string{"", " ) ", " n "}[named]
			continue
		case named == 1:
			named = 0
		case class == "open" || class == "done":
			may, named = " ( ", 3
			continue
		case class == "not":
			continue
		case class == "(":
			related, may = append(related, false), first
			continue
		case class == "or" || class == "and":
			related[len(related)-1], may = false, first
			continue
		case strings.Contains("=<", class):
			related[len(related)-1], may = true, inside
			continue
		case strings.Contains("+-*", class):
			may = inside
			continue
		case class == ")":
			related = related[:len(related)-1]
		}
		may = " or and + - * "
		if !related[len(related)-1] {
			may += "= < "
		}
		if len(related) > 1 {
			may += ") "
		} else {
			may += "end "
		}
	}
	return -1
}

// modelTree cuts a row of tokens that may be at its loosest sign, the last one of those that are as loose.
func modelTree(l []modelToken) api.Guard {
	for _, loose := range []map[string]uint8{{"or": 10}, {"and": 9}, {"not": 8}, {"=": 11, "<": 12}, {"+": 13, "-": 14}, {"*": 15}} {
		brackets := 0
		for i := len(l) - 1; i >= 0; i-- {
			switch class := l[i].class; {
			case class == ")":
				brackets++
			case class == "(":
				brackets--
			case brackets > 0 || loose[class] == 0 || class == "not" && i > 0:
			case class == "not":
				return api.Guard{Kind: 8, Kids: []api.Guard{modelTree(l[1:])}}
			default:
				return api.Guard{Kind: loose[class], Kids: []api.Guard{modelTree(l[:i]), modelTree(l[i+1:])}}
			}
		}
	}
	switch l[0].class {
	case "true":
		return api.Guard{Kind: 1}
	case "false":
		return api.Guard{Kind: 2}
	case "0":
		n, _ := new(big.Int).SetString(l[0].text, 10)
		return api.Guard{Kind: 3, Int: n.Int64()}
	case "'":
		return api.Guard{Kind: 4, Text: l[0].text}
	case "n":
		return api.Guard{Kind: 5, Text: l[0].text}
	case "open":
		return api.Guard{Kind: 6, Text: l[2].text}
	case "done":
		return api.Guard{Kind: 7, Text: l[2].text}
	}
	return modelTree(l[1 : len(l)-1])
}

func modelRead(s string) (api.Guard, int, api.Errno) {
	if len(s) > 16384 {
		return api.Guard{}, 0, api.ErrText
	}
	l := modelRow(s)
	if at := modelPlace(l); at >= 0 {
		return api.Guard{}, at, api.ErrGuard
	}
	g := modelTree(l[:len(l)-1])
	if len(modelLevels(g)) > 32 {
		return api.Guard{}, 0, api.ErrDepth
	}
	return g, 0, api.OK
}

// modelLevels are all guards within g, and g, by their depth.
func modelLevels(g api.Guard) [][]api.Guard {
	levels := [][]api.Guard{{g}}
	for {
		var next []api.Guard
		for _, x := range levels[len(levels)-1] {
			next = append(next, x.Kids...)
		}
		if len(next) == 0 {
			return levels
		}
		levels = append(levels, next)
	}
}

func modelJudge(g api.Guard) api.Errno {
	levels := modelLevels(g)
	for _, level := range levels {
		for _, x := range level {
			if x.Kind < 1 || x.Kind > 15 {
				return api.ErrBad
			}
			kids := []int{0, 0, 0, 0, 0, 0, 0, 1, 2, 2, 2, 2, 2, 2, 2}[x.Kind-1]
			pattern := []*regexp.Regexp{4: modelChars, 5: modelNames, 6: modelNames, 7: modelNames, 15: nil}[x.Kind]
			if len(x.Kids) != kids || x.Int < 0 || x.Int > 0 && x.Kind != 3 || pattern == nil && x.Text != "" {
				return api.ErrBad
			}
			if pattern != nil && (!pattern.MatchString(x.Text) || pattern == modelNames && modelTaken.MatchString(x.Text)) {
				return api.ErrBad
			}
		}
	}
	if len(levels) > 32 {
		return api.ErrDepth
	}
	return api.OK
}

func modelText(g api.Guard) (string, api.Errno) {
	if e := modelJudge(g); e != api.OK {
		return "", e
	}
	s := modelWritten(g)
	if len(s) > 16384 {
		return "", api.ErrText
	}
	return s, api.OK
}

func modelWritten(g api.Guard) string {
	var kids []string
	for _, x := range g.Kids {
		s := modelWritten(x)
		if len(x.Kids) > 0 {
			s = "(" + s + ")"
		}
		kids = append(kids, s)
	}
	switch len(kids) {
	case 0:
		return []string{"true", "false", fmt.Sprint(g.Int), "'" + g.Text + "'", g.Text, "open(" + g.Text + ")", "done(" + g.Text + ")"}[g.Kind-1]
	case 1:
		return "not " + kids[0]
	}
	return kids[0] + " " + []string{"and", "or", "=", "<", "+", "-", "*"}[g.Kind-9] + " " + kids[1]
}

// modelBehind is the row of all guards within g, and g, each behind its kids.
func modelBehind(g api.Guard) []api.Guard {
	var row []api.Guard
	for rest := []api.Guard{g}; len(rest) > 0; {
		x := rest[len(rest)-1]
		rest = append(rest[:len(rest)-1], x.Kids...)
		row = append(row, x)
	}
	slices.Reverse(row)
	return row
}

func modelKind(g api.Guard, m api.Model) (uint8, api.Errno) {
	if e := modelJudge(g); e != api.OK {
		return 0, e
	}
	attrs, stages, stones := modelHas(m)
	var stack []uint8
	for _, x := range modelBehind(g) {
		from := len(stack) - len(x.Kids)
		kids := fmt.Sprint(stack[from:])
		kind := []uint8{1, 1, 2, 3, 0, 1, 1, 1, 1, 1, 1, 1, 2, 2, 2}[x.Kind-1]
		wants := map[uint8]string{8: "[1]", 9: "[1 1]", 10: "[1 1]", 11: "[1 1][2 2][3 3]", 12: "[2 2]", 13: "[2 2]", 14: "[2 2]", 15: "[2 2]"}
		has := map[uint8]map[string]int{5: attrs, 6: stages, 7: stones}[x.Kind]
		i, is := has[x.Text]
		switch {
		case has != nil && !is:
			return 0, api.ErrNone
		case x.Kind == 5 && (m.Attrs[i].Kind < 1 || m.Attrs[i].Kind > 3):
			return 0, api.ErrKind
		case x.Kind == 5:
			kind = m.Attrs[i].Kind
		case x.Kind > 7 && !strings.Contains(wants[x.Kind], kids):
			return 0, api.ErrKind
		}
		stack = append(stack[:from], kind)
	}
	return stack[0], api.OK
}

// modelHas has the first number of each name of a model.
func modelHas(m api.Model) (attrs, stages, stones map[string]int) {
	attrs, stages, stones = map[string]int{}, map[string]int{}, map[string]int{}
	for i := len(m.Attrs) - 1; i >= 0; i-- {
		attrs[m.Attrs[i].Name] = i
	}
	for i := len(m.Stages) - 1; i >= 0; i-- {
		stages[m.Stages[i].Name] = i
	}
	for i := len(m.Stones) - 1; i >= 0; i-- {
		stones[m.Stones[i].Name] = i
	}
	return attrs, stages, stones
}

func modelNamed(g api.Guard) (attrs, stages, stones []string, e api.Errno) {
	if e := modelJudge(g); e != api.OK {
		return nil, nil, nil, e
	}
	all := map[uint8]map[string]bool{5: {}, 6: {}, 7: {}}
	for _, x := range modelBehind(g) {
		if all[x.Kind] != nil {
			all[x.Kind][x.Text] = true
		}
	}
	lists := map[uint8][]string{}
	for kind, names := range all {
		for name := range names {
			lists[kind] = append(lists[kind], name)
		}
		sort.Strings(lists[kind])
	}
	return lists[5], lists[6], lists[7], api.OK
}

func modelFits(m api.Model, c api.Case) bool {
	if fmt.Sprint(len(m.Attrs), len(m.Stages), len(m.Stones)) != fmt.Sprint(len(c.Values), len(c.Open), len(c.Done)) {
		return false
	}
	for i, v := range c.Values {
		of := map[[2]uint8]bool{{1, 1}: true, {2, 2}: true, {3, 4}: true}[[2]uint8{m.Attrs[i].Kind, v.Kind}]
		if !of || v.Bool && v.Kind != 1 || v.Int != 0 && v.Kind != 2 || v.Text != "" && v.Kind != 4 || len(v.Names)+len(v.Items) > 0 {
			return false
		}
		if len(v.Text) > 16384 || !utf8.ValidString(v.Text) {
			return false
		}
	}
	return true
}

// modelWorth is what a guard is worth: its kind is that of the value; a nil is one that has none, whatever is asked of it.
func modelWorth(g api.Guard, m api.Model, c api.Case) (api.Json, api.Errno) {
	kind, e := modelKind(g, m)
	if e != api.OK {
		return api.Json{}, e
	}
	if !modelFits(m, c) {
		return api.Json{}, api.ErrBad
	}
	attrs, stages, stones := modelHas(m)
	var stack []any
	for _, x := range modelBehind(g) {
		from := len(stack) - len(x.Kids)
		var worth any
		switch x.Kind {
		case 1, 2:
			worth = x.Kind == 1
		case 3:
			worth = big.NewInt(x.Int)
		case 4:
			worth = x.Text
		case 5:
			v := c.Values[attrs[x.Text]]
			worth = map[uint8]any{1: v.Bool, 2: big.NewInt(v.Int), 4: v.Text}[v.Kind]
		case 6:
			worth = c.Open[stages[x.Text]]
		case 7:
			worth = c.Done[stones[x.Text]]
		default:
			worth = modelOf(x.Kind, stack[from:])
		}
		stack = append(stack[:from], worth)
	}
	switch {
	case stack[0] == nil:
		return api.Json{}, api.ErrWorth
	case kind == api.IsInt:
		return api.Json{Kind: 2, Int: stack[0].(*big.Int).Int64()}, api.OK
	case kind == api.IsText:
		return api.Json{Kind: 4, Text: stack[0].(string)}, api.OK
	}
	return api.Json{Kind: 1, Bool: stack[0].(bool)}, api.OK
}

// modelOf is what a part is worth whose kids are worth that; of and, or, the first one may be enough, whatever the second one is.
func modelOf(kind uint8, kids []any) any {
	switch a := kids[0]; {
	case a == nil:
		return nil
	case kind == 8:
		return a == false
	case kind == 9 && a == false, kind == 10 && a == true:
		return a
	case kids[1] == nil || kind <= 10:
		return kids[1]
	}
	a, isNumber := kids[0].(*big.Int)
	if !isNumber {
		return kids[0] == kids[1]
	}
	b := kids[1].(*big.Int)
	n := new(big.Int)
	switch kind {
	case 11:
		return a.Cmp(b) == 0
	case 12:
		return a.Cmp(b) < 0
	case 13:
		n.Add(a, b)
	case 14:
		n.Sub(a, b)
	case 15:
		n.Mul(a, b)
	}
	if n.Cmp(least) < 0 || n.Cmp(greatest) > 0 {
		return nil
	}
	return n
}

// shown tells all fields of a guard; a list without elements is shown as one that is not there.
func shown(g api.Guard) string {
	s := fmt.Sprintf("%d %d %q (", g.Kind, g.Int, g.Text)
	for _, x := range g.Kids {
		s += shown(x) + ";"
	}
	return s + ")"
}

func modelSame(a, b api.Guard) bool { return shown(a) == shown(b) }
