package guard

import (
	"fmt"
	"strings"
	"testing"

	"docket/api"
)

// a, b, c and d are attributes.
var a, b, c, d = leaf(api.GuardAttr, "a"), leaf(api.GuardAttr, "b"), leaf(api.GuardAttr, "c"), leaf(api.GuardAttr, "d")

// held is what Read answers, once the model has answered the same.
func held(t *testing.T, s string) (api.Guard, int, api.Errno) {
	t.Helper()
	g, at, e := Read(s)
	want, wantAt, wantE := modelRead(s)
	if !modelSame(g, want) || at != wantAt || e != wantE {
		t.Fatalf("%.200q is read as %.500s, %d, %d, not as %.500s, %d, %d", s, shown(g), at, e, shown(want), wantAt, wantE)
	}
	return g, at, e
}

func wantRead(t *testing.T, s string, want api.Guard) {
	t.Helper()
	if g, at, e := held(t, s); !modelSame(g, want) || at != 0 || e != api.OK {
		t.Errorf("%.200q is read as %.500s, %d, %d, not as %.500s", s, shown(g), at, e, shown(want))
	}
}

func wantRefused(t *testing.T, s string, at int, e api.Errno) {
	t.Helper()
	if g, gotAt, gotE := held(t, s); !modelSame(g, api.Guard{}) || gotAt != at || gotE != e {
		t.Errorf("%.200q is read as %.500s, %d, %d, not refused at %d by %d", s, shown(g), gotAt, gotE, at, e)
	}
}

// wantGuard asks that s is no guard, which is told at a place.
func wantGuard(t *testing.T, s string, at int) {
	t.Helper()
	wantRefused(t, s, at, api.ErrGuard)
}

func TestReadAtoms(t *testing.T) {
	for s, want := range map[string]api.Guard{
		"true": leaf(api.GuardTrue, ""), "false": leaf(api.GuardFalse, ""), "7": whole(7), "'x y'": leaf(api.GuardText, "x y"), "a": a,
		"open(s)": leaf(api.GuardOpen, "s"), "done(m)": leaf(api.GuardDone, "m"), "(a)": a, "((7))": whole(7), "(open(s))": leaf(api.GuardOpen, "s"),
	} {
		wantRead(t, s, want)
		wantRead(t, "  "+s+"   ", want)
		wantGuard(t, s+" a", len(s)+1)
		wantGuard(t, s+")", len(s))
	}
}

func TestReadSigns(t *testing.T) {
	for sign, kind := range map[string]uint8{"=": api.GuardSame, "<": api.GuardLess, "+": api.GuardAdd, "-": api.GuardSub, "*": api.GuardMul, "and": api.GuardAnd, "or": api.GuardOr} {
		wantRead(t, "a "+sign+" b", over(kind, a, b))
		wantRead(t, "1 "+sign+"  'b'", over(kind, whole(1), leaf(api.GuardText, "b")))
		wantRead(t, "(a)"+sign+"(b)", over(kind, a, b))
		wantGuard(t, sign+" a", 0)
		wantGuard(t, "a "+sign, 2+len(sign))
		wantGuard(t, "a "+sign+" ) b", 3+len(sign))
		for _, other := range []string{"=", "<", "+", "-", "*", "and", "or", ")"} {
			wantGuard(t, "a "+sign+" "+other+" b", 3+len(sign))
		}
	}
	wantRead(t, "not a", over(api.GuardNot, a))
	wantRead(t, "not(a)", over(api.GuardNot, a))
	wantGuard(t, "a not b", 2)
	wantGuard(t, "not", 3)
}

// No taken word is a name, nor any other token than what it is.
func TestReadTakenWords(t *testing.T) {
	for _, w := range []string{"and", "or", "not", "true", "false", "open", "done"} {
		wantGuard(t, "open("+w+")", 5)
		wantGuard(t, "done( "+w+" )", 6)
		wantGuard(t, "a "+w+" and", 2+map[string]int{"and": 4, "or": 3}[w])
		for _, name := range []string{w + "x", w + "1", w + "-", w + "_", w + ".", "x" + w} {
			wantRead(t, name, leaf(api.GuardAttr, name))
			wantRead(t, "open("+name+")", leaf(api.GuardOpen, name))
		}
		wantGuard(t, strings.ToUpper(w), 0)
	}
	wantGuard(t, "and", 0)
	wantGuard(t, "or", 0)
	wantGuard(t, "and a", 0)
	wantGuard(t, "true true", 5)
	wantGuard(t, "a = not b", 4)
	wantGuard(t, "a + not b", 4)
	wantGuard(t, "a * not b", 4)
	wantGuard(t, "1 < not b", 4)
	wantRead(t, "a = (not b)", over(api.GuardSame, a, over(api.GuardNot, b)))
}

func TestReadNames(t *testing.T) {
	for c := range 256 {
		x := string([]byte{byte(c)})
		may := strings.Contains("abcdefghijklmnopqrstuvwxyz0123456789-_.", x)
		if may {
			wantRead(t, "a"+x+"a", leaf(api.GuardAttr, "a"+x+"a"))
			wantRead(t, "a"+x, leaf(api.GuardAttr, "a"+x))
			wantRead(t, "done(a"+x+")", leaf(api.GuardDone, "a"+x))
		} else if c != ' ' && !strings.Contains("=<+-*()", x) {
			wantGuard(t, "a"+x+"a", 1)
			wantGuard(t, "a"+x, 1)
		}
		if first := c >= 'a' && c <= 'z'; first {
			wantRead(t, x, leaf(api.GuardAttr, x))
		} else if c < '0' || c > '9' {
			held(t, x)
			held(t, x+"a")
			held(t, "open("+x+"a)")
		}
	}
	long := strings.Repeat("n", 32)
	wantRead(t, long, leaf(api.GuardAttr, long))
	wantRead(t, "open("+long+")", leaf(api.GuardOpen, long))
	wantRead(t, long+" = 1", over(api.GuardSame, leaf(api.GuardAttr, long), whole(1)))
	wantRead(t, "not-"+long[4:], leaf(api.GuardAttr, "not-"+long[4:]))
	wantGuard(t, long+"n", 0)
	wantGuard(t, long+"-", 0)
	wantGuard(t, "a = "+long+"1", 4)
	wantGuard(t, "a "+long+"1", 2)
	wantGuard(t, "done("+long+"n)", 5)
	wantGuard(t, "open "+long+"n)", 5)
	wantGuard(t, "not"+strings.Repeat("-", 30), 0)
}

func TestReadMinus(t *testing.T) {
	name := func(s string) api.Guard { return leaf(api.GuardAttr, s) }
	wantRead(t, "a-1", name("a-1"))
	wantRead(t, "a-", name("a-"))
	wantRead(t, "a- - 1", over(api.GuardSub, name("a-"), whole(1)))
	wantRead(t, "a - 1", over(api.GuardSub, a, whole(1)))
	wantRead(t, "a -1", over(api.GuardSub, a, whole(1)))
	wantRead(t, "1-a", over(api.GuardSub, whole(1), a))
	wantRead(t, "1-1", over(api.GuardSub, whole(1), whole(1)))
	wantRead(t, "(a)-1", over(api.GuardSub, a, whole(1)))
	wantRead(t, "'a'-1", over(api.GuardSub, leaf(api.GuardText, "a"), whole(1)))
	wantGuard(t, "a- 1", 3)
	wantGuard(t, "-1", 0)
	wantGuard(t, "1 - -1", 4)
	wantGuard(t, "a--1 -", 6)
}

func TestReadNumbers(t *testing.T) {
	for _, n := range []int64{0, 1, 9, 10, 42, 100, 9223372036854775806, 9223372036854775807} {
		wantRead(t, fmt.Sprint(n), whole(n))
		wantRead(t, fmt.Sprintf("(%d)*%d", n, n), over(api.GuardMul, whole(n), whole(n)))
	}
	wantGuard(t, "00", 1)
	wantGuard(t, "01", 1)
	wantGuard(t, "007", 1)
	wantGuard(t, "0a", 1)
	wantGuard(t, "12a", 2)
	wantGuard(t, "1 2", 2)
	wantGuard(t, "1.5", 1)
	wantGuard(t, "1e5", 1)
	wantGuard(t, "9223372036854775808", 0)
	wantGuard(t, "9223372036854775810", 0)
	wantGuard(t, "a = 18446744073709551616", 4)
	wantGuard(t, "a 18446744073709551617", 2)
	wantGuard(t, strings.Repeat("9", 16384), 0)
	wantGuard(t, "1"+strings.Repeat("0", 19), 0)
	wantRead(t, "1and 2or 3", over(api.GuardOr, over(api.GuardAnd, whole(1), whole(2)), whole(3)))
}

func TestReadTexts(t *testing.T) {
	text := func(s string) api.Guard { return leaf(api.GuardText, s) }
	wantRead(t, "''", text(""))
	for c := range 256 {
		x := string([]byte{byte(c)})
		if may := c >= 32 && c <= 126 && c != '\''; may {
			wantRead(t, "'"+x+"'", text(x))
			wantRead(t, "'a"+x+"b'", text("a"+x+"b"))
			wantGuard(t, "'"+x, 0)
		} else if c != '\'' {
			wantGuard(t, "'"+x+"'", 0)
			wantGuard(t, "a = 'a"+x+"'", 4)
		}
	}
	wantRead(t, "'and' = '('", over(api.GuardSame, text("and"), text("(")))
	wantRead(t, "'a'and'b'", over(api.GuardAnd, text("a"), text("b")))
	wantGuard(t, "'", 0)
	wantGuard(t, "'x", 0)
	wantGuard(t, "  'x ", 2)
	wantGuard(t, "'a''b'", 3)
	wantGuard(t, "'a''", 3)
	wantGuard(t, "a 'b", 2)
	wantGuard(t, "'a' 'b' '", 4)
	wantGuard(t, "open('a')", 5)
	wantGuard(t, "'é'", 0)
}

// Each level beside the next one, and each with itself, from the left.
func TestReadLevels(t *testing.T) {
	not := func(g api.Guard) api.Guard { return over(api.GuardNot, g) }
	and := func(x, y api.Guard) api.Guard { return over(api.GuardAnd, x, y) }
	or := func(x, y api.Guard) api.Guard { return over(api.GuardOr, x, y) }
	same := func(x, y api.Guard) api.Guard { return over(api.GuardSame, x, y) }
	less := func(x, y api.Guard) api.Guard { return over(api.GuardLess, x, y) }
	add := func(x, y api.Guard) api.Guard { return over(api.GuardAdd, x, y) }
	sub := func(x, y api.Guard) api.Guard { return over(api.GuardSub, x, y) }
	mul := func(x, y api.Guard) api.Guard { return over(api.GuardMul, x, y) }
	for s, want := range map[string]api.Guard{
		"a or b or c": or(or(a, b), c), "a or (b or c)": or(a, or(b, c)), "(a or b) or c": or(or(a, b), c), "a or b or c or d": or(or(or(a, b), c), d),
		"a and b and c": and(and(a, b), c), "a and (b and c)": and(a, and(b, c)), "a and b and c and d": and(and(and(a, b), c), d),
		"a or b and c": or(a, and(b, c)), "a and b or c": or(and(a, b), c), "(a or b) and c": and(or(a, b), c), "a and (b or c)": and(a, or(b, c)), "a and b or c and d": or(and(a, b), and(c, d)),
		"not not a": not(not(a)), "not (not a)": not(not(a)), "not not not a": not(not(not(a))),
		"not a and b": and(not(a), b), "a and not b": and(a, not(b)), "not (a and b)": not(and(a, b)), "not a or not b": or(not(a), not(b)), "not (a or b)": not(or(a, b)), "a or not b and c": or(a, and(not(b), c)),
		"not a = b": not(same(a, b)), "(not a) = b": same(not(a), b), "a = (not b)": same(a, not(b)), "not a < b": not(less(a, b)), "not a + b": not(add(a, b)), "not a * b": not(mul(a, b)), "not not a = b": not(not(same(a, b))),
		"(a = b) = c": same(same(a, b), c), "a = (b = c)": same(a, same(b, c)), "(a < b) < c": less(less(a, b), c), "a < (b = c)": less(a, same(b, c)), "a = b and c = d": and(same(a, b), same(c, d)), "a < b or c": or(less(a, b), c),
		"a = (b and c)": same(a, and(b, c)), "(a or b) = c": same(or(a, b), c), "a and b = c": and(a, same(b, c)), "a = b and c": and(same(a, b), c),
		"a + b = c": same(add(a, b), c), "a = b + c": same(a, add(b, c)), "a - b < c - d": less(sub(a, b), sub(c, d)), "a + (b = c)": add(a, same(b, c)), "(a < b) - c": sub(less(a, b), c), "a * b = c * d": same(mul(a, b), mul(c, d)),
		"a + b + c": add(add(a, b), c), "a - b - c": sub(sub(a, b), c), "a - (b - c)": sub(a, sub(b, c)), "a + b - c": sub(add(a, b), c), "a - b + c": add(sub(a, b), c), "a - b - c - d": sub(sub(sub(a, b), c), d),
		"a - b * c": sub(a, mul(b, c)), "a * b - c": sub(mul(a, b), c), "(a - b) * c": mul(sub(a, b), c), "a * (b + c)": mul(a, add(b, c)), "a * b + c * d": add(mul(a, b), mul(c, d)), "a + b * c - d": sub(add(a, mul(b, c)), d),
		"a * b * c": mul(mul(a, b), c), "a * (b * c)": mul(a, mul(b, c)), "a * b * c * d": mul(mul(mul(a, b), c), d),
	} {
		wantRead(t, s, want)
		wantRead(t, "("+s+")", want)
		wantRead(t, strings.ReplaceAll(strings.ReplaceAll(s, "(", " ( "), ")", " ) "), want)
	}
	wantGuard(t, "a = b = c", 6)
	wantGuard(t, "a < b < c", 6)
	wantGuard(t, "a = b < c", 6)
	wantGuard(t, "a < b = c", 6)
	wantGuard(t, "(a = b = c", 7)
	wantGuard(t, "a + 1 = b * 2 - 3 < c", 18)
	wantGuard(t, "not a = b = c", 10)
	wantGuard(t, "a = (b = c) = d", 12)
	wantRead(t, "a = b and c = d or a = b", or(and(same(a, b), same(c, d)), same(a, b)))
}

// open and done ask for a name in brackets, and for nothing else.
func TestReadOpenAndDone(t *testing.T) {
	for _, w := range []string{"open", "done"} {
		n := len(w)
		for s, at := range map[string]int{
			w: n, w + " ": n + 1, w + " s": n + 1, w + "(": n + 1, w + "( ": n + 2, w + "(s": n + 2, w + "(s ": n + 3, w + "()": n + 1, w + "( )": n + 2, w + "(s s)": n + 3,
			w + "(1)": n + 1, w + "('s')": n + 1, w + "((s))": n + 1, w + "(s": n + 2, w + "(s(": n + 2, w + "(open(s))": n + 1, w + "(s and b)": n + 3, w + "(s) s": n + 4,
			w + "=a": n, w + " and a": n + 1, w + "(not s)": n + 1, w + "(#": n + 1, w + "(s#)": n + 2, w + "#": n, w + "(s)#": n + 3, w + "(S)": n + 1, w + "(s'": n + 2,
		} {
			wantGuard(t, s, at)
			wantGuard(t, "a and  "+s, at+7)
			wantGuard(t, "not ("+s, at+5)
		}
		kind := map[string]uint8{"open": api.GuardOpen, "done": api.GuardDone}[w]
		wantRead(t, "  "+w+"  (  s  )  ", leaf(kind, "s"))
		wantRead(t, w+"(s)="+w+"(t-1)", over(api.GuardSame, leaf(kind, "s"), leaf(kind, "t-1")))
		wantRead(t, w+"(open.)", leaf(kind, "open."))
		wantRead(t, "("+w+"(s))", leaf(kind, "s"))
		wantGuard(t, w+"(s))", n+3)
	}
}

func TestReadBlanks(t *testing.T) {
	tokens := strings.Fields("( a + 1 = 'x' ) and not open ( s ) or done ( m ) * 2 - b < true")
	plain, _, e := held(t, strings.Join(tokens, " "))
	if e != api.OK {
		t.Fatal(e)
	}
	wantRead(t, strings.Join(tokens, "    "), plain)
	wantRead(t, "    "+strings.Join(tokens, " ")+"    ", plain)
	for i := range len(tokens) + 1 {
		ahead, behind := strings.Join(tokens[:i], " "), strings.Join(tokens[i:], " ")
		wantRead(t, ahead+"     "+behind, plain)
		for c := range 256 {
			if strings.Contains(" '", string([]byte{byte(c)})) || c >= 'a' && c <= 'z' || c >= '0' && c <= '9' || strings.ContainsRune("=<+-*()", rune(c)) {
				continue
			}
			// It ends the word or the number ahead of it, and begins no token; a point or a low line would go on with a word.
			wantGuard(t, ahead+" "+string([]byte{byte(c)})+behind, len(ahead)+1)
		}
	}
	for s, at := range map[string]int{"": 0, " ": 1, "     ": 5, "\t": 0, " \n": 1, "\x00": 0, "a\t": 1, "a \r": 2, "\u00a0a": 0} {
		wantGuard(t, s, at)
	}
}

// What ends too early is told behind all bytes, blanks too.
func TestReadEndsTooEarly(t *testing.T) {
	for _, s := range []string{"(a + 1 = b) and not open(s) or done(m)", "not (not (a - b * c < 7))"} {
		tokens := modelRow(s)
		for _, x := range tokens[1:] {
			begin := strings.TrimRight(s[:x.at], " ")
			_, _, e := held(t, begin)
			for _, blanks := range []string{"", " ", "   "} {
				if e == api.ErrGuard {
					wantGuard(t, begin+blanks, len(begin)+len(blanks))
				}
			}
		}
	}
	for _, s := range []string{"(", "((", "(a", "(a and", "a and (b", "not", "a =", "1 +", "1 -", "1 *", "a or", "a or not", "open", "open(", "open(s", "(open(s)"} {
		wantGuard(t, s, len(s))
		wantGuard(t, s+"  ", len(s)+2)
	}
}

// The first of both is told: a token that can't stand there, a byte that begins none.
func TestReadFirstFault(t *testing.T) {
	for s, at := range map[string]int{
		"a b #": 2, "a # b c": 2, "a = = #": 4, "a = # =": 4, "# a a": 0, ") #": 0, "a)#": 1, "a#)": 1, "(a b 'x": 3, "(a 'x": 3, "'x' 'y": 4, "a = 'x b b": 4,
		"a = 9223372036854775808 b b": 4, "a b 9223372036854775808": 2, "a = b = 9223372036854775808": 6, "a and or #": 6, "open # (": 5, "open a #": 5, "a + #": 4, "a A": 2, "A a": 0, "1 1 01": 2, "01 #": 1,
	} {
		wantGuard(t, s, at)
	}
}

func TestReadLength(t *testing.T) {
	wantRead(t, strings.Repeat(" ", 16383)+"a", a)
	wantRead(t, "a"+strings.Repeat(" ", 16383), a)
	wantRead(t, "'"+strings.Repeat("x", 16382)+"'", leaf(api.GuardText, strings.Repeat("x", 16382)))
	wantGuard(t, strings.Repeat(" ", 16384), 16384)
	wantGuard(t, strings.Repeat(" ", 16383)+"#", 16383)
	for _, s := range []string{strings.Repeat(" ", 16384) + "a", "a" + strings.Repeat(" ", 16384), "'" + strings.Repeat("x", 16383) + "'", strings.Repeat(" ", 16385), strings.Repeat("#", 16385), strings.Repeat("not ", 4096) + "a"} {
		wantRefused(t, s, 0, api.ErrText)
	}
}

func TestReadDepth(t *testing.T) {
	rows := map[string]func(n int) string{ // of the depth n
		"not":     func(n int) string { return strings.Repeat("not ", n-1) + "a" },
		"or":      func(n int) string { return "a" + strings.Repeat(" or b", n-1) },
		"and":     func(n int) string { return "a" + strings.Repeat(" and b", n-1) },
		"sums":    func(n int) string { return "a" + strings.Repeat(" + b", n-1) },
		"minus":   func(n int) string { return "a" + strings.Repeat(" - b", n-1) },
		"product": func(n int) string { return "a" + strings.Repeat(" * b", n-1) },
		"right":   func(n int) string { return strings.Repeat("a or (", n-1) + "b" + strings.Repeat(")", n-1) },
		"and's":   func(n int) string { return strings.Repeat("a and (", n-1) + "b" + strings.Repeat(")", n-1) },
		"left":    func(n int) string { return strings.Repeat("(", n-1) + "a" + strings.Repeat(" = b)", n-1) },
		"same":    func(n int) string { return strings.Repeat("a = (", n-1) + "b" + strings.Repeat(")", n-1) },
		"less":    func(n int) string { return strings.Repeat("1 < (", n-1) + "2" + strings.Repeat(")", n-1) },
		"second":  func(n int) string { return strings.Repeat("1 - (", n-1) + "open(s)" + strings.Repeat(")", n-1) },
		"both": func(n int) string {
			return strings.Repeat("not (a and ", (n-1)/2) + "not b"[4*(n%2):] + strings.Repeat(")", (n-1)/2)
		},
	}
	for what, row := range rows {
		for _, n := range []int{31, 32} {
			if g, _, e := held(t, row(n)); e != api.OK || len(modelLevels(g)) != n {
				t.Errorf("%s, %d deep: %d, of the depth %d", what, n, e, len(modelLevels(g)))
			}
		}
		for _, n := range []int{33, 34, 200} {
			s := row(n)
			wantRefused(t, s, 0, api.ErrDepth)
			// A fault of the grammar goes ahead of the depth, wherever it stands.
			wantGuard(t, s+" #", len(s)+1)
			wantGuard(t, s+" b", len(s)+1)
			wantGuard(t, s+")", len(s))
			wantGuard(t, "("+s, len(s)+1)
		}
	}
	// Brackets have no depth of their own.
	for _, n := range []int{1, 31, 32, 33, 300} {
		wantRead(t, strings.Repeat("(", n)+"a"+strings.Repeat(")", n), a)
		wantGuard(t, strings.Repeat("(", n)+"a"+strings.Repeat(")", n-1), 2*n)
		wantGuard(t, strings.Repeat("(", n)+"a"+strings.Repeat(")", n)+")", 2*n+1)
	}
	deepest := strings.Repeat("(", 100) + rows["not"](32) + strings.Repeat(")", 100)
	if _, _, e := held(t, deepest); e != api.OK {
		t.Error(e)
	}
	wantGuard(t, strings.Repeat("(", 16384), 16384)
	wantGuard(t, strings.Repeat("not ", 4096), 16384)
	if g, at, e := Read(strings.Repeat("(", 8191) + "a" + strings.Repeat(")", 8191)); !modelSame(g, a) || at != 0 || e != api.OK {
		t.Error(shown(g), at, e)
	}
	for _, s := range []string{strings.Repeat("not ", 4095) + "a", "a" + strings.Repeat("*a", 8191), strings.Repeat("1-(", 4095) + "1" + strings.Repeat(")", 4095)} {
		if g, at, e := Read(s); !modelSame(g, api.Guard{}) || at != 0 || e != api.ErrDepth {
			t.Error(shown(g), at, e)
		}
	}
}

// rowsOf calls f with each row of at most n of the words.
func rowsOf(n int, words []string, f func(s string)) {
	var grow func(s string, n int)
	grow = func(s string, n int) {
		f(s)
		for _, w := range words {
			if n > 0 {
				grow(s+w, n-1)
			}
		}
	}
	grow("", n)
}

// Whatever the tokens, and whatever the bytes, of which a short text is.
func TestReadAllShortTexts(t *testing.T) {
	read := 0
	count := func(s string) {
		if _, _, e := held(t, s); e == api.OK {
			read++
		}
	}
	rowsOf(5, []string{"a ", "= ", "+ ", "* ", "( ", ") ", "not ", "and ", "or ", "open "}, count)
	rowsOf(4, []string{"a", "1 ", "0", "=", "<", "-", "*", "(", ")", "not ", " and ", " or ", "open", "done ", "'", "true", "#", "x-", "9223372036854775807"}, count)
	rowsOf(5, []string{"a", "0", "1", "'", " ", "-", "=", "(", ")"}, count)
	if read < 8000 {
		t.Errorf("%d were read", read)
	}
}

func TestReadDrawnTexts(t *testing.T) {
	r := newDrawer(1)
	var read, refused int
	for range draws {
		if _, _, e := held(t, r.text()); e == api.OK {
			read++
		} else {
			refused++
		}
	}
	if read < draws/8 || refused < draws/8 {
		t.Errorf("%d were read, %d refused", read, refused)
	}
}

// Nothing behind the place of a refusal, once the token there has ended, could make a guard of what stands up to it.
func TestNothingMendsARefusal(t *testing.T) {
	r := newDrawer(2)
	for range draws {
		s := r.text()
		_, at, e := Read(s)
		if e == api.OK || at == len(s) {
			continue
		}
		tokens := modelRow(s[at:])
		if len(tokens) < 2 {
			continue // it begins no token, but could with other bytes behind it
		}
		other := s[:at+tokens[1].at] + " " + r.text()
		if _, again, f := held(t, other); again != at || f != e {
			t.Fatalf("%q is refused at %d by %d, %q at %d by %d", s, at, e, other, again, f)
		}
	}
}
