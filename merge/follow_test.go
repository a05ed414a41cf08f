package merge

import (
	"math/rand"
	"slices"
	"testing"

	"docket/api"
)

// withRoom are the same rows, each with spare room behind it, and one more row behind all of them.
func withRoom(l [][]api.Entry) [][]api.Entry {
	out := make([][]api.Entry, 0, len(l)+1)
	for _, row := range l {
		out = append(out, append(slices.Clone(row), put("spare", "room", 1), put("", "", -1))[:len(row)])
	}
	return append(out, list(put("spare", "row", 1)))[:len(l)]
}

// whole are rows with their spare room, and with the row behind them.
func whole(l [][]api.Entry) [][]api.Entry {
	var out [][]api.Entry
	for _, row := range l[:len(l)+1] {
		out = append(out, slices.Clone(row[:cap(row)]))
	}
	return out
}

func sameRows(a, b [][]api.Entry) bool {
	return slices.EqualFunc(a, b, slices.Equal[[]api.Entry])
}

func TestOnlyRead(t *testing.T) {
	some := [][][]api.Entry{nil, {nil}, looks(), dealt(numbered(200), 7), cut(numbered(200), 30), {numbered(8), numbered(9)}, make([][]api.Entry, 65), cut(numbered(most+1), 4000)}
	for _, c := range wrong() {
		some = append(some, lists(numbered(4), c.l))
	}
	for _, l := range some {
		arg := withRoom(l)
		before := whole(arg)
		All(arg)
		for _, seq := range []int{-1, 0, 3, 20, end, end + 1} {
			Live(arg, seq)
			for _, from := range []string{"", "key00003", chars(api.MaxKey+1, 'k')} {
				c, _ := New(arg, seq, from)
				for range 30 {
					c.Next()
				}
			}
			for _, row := range arg {
				Thin(row, seq, true)
				Thin(row, seq, false)
			}
		}
		if len(arg) != len(l) || !sameRows(arg, l) || !sameRows(whole(arg), before) {
			t.Errorf("%s, or what is behind them, became others", shortRows(l))
		}
	}
}

// spoil writes over a list, its spare room too.
func spoil(l []api.Entry) {
	l = l[:cap(l)]
	for i := range l {
		l[i] = put("other", "entry", 1)
	}
}

// spoilRows writes over rows, and over their list.
func spoilRows(l [][]api.Entry) {
	for i, row := range l {
		spoil(row)
		l[i] = list(put("other", "row", 2))
	}
}

// wantNew asks for two answers of the same arguments, and spoils one of them, and the arguments.
func wantNew(t *testing.T, name string, l [][]api.Entry, answer func(l [][]api.Entry) []api.Entry) {
	t.Helper()
	want := slices.Clone(answer(l))
	arg := withRoom(l)
	one, two := answer(arg), answer(arg)
	spoil(one)
	if !sameRows(arg, l) || !slices.Equal(two, want) {
		t.Errorf("what %s answered shares memory with %s or %s", name, shortRows(arg), short(two))
	}
	spoilRows(arg)
	if !slices.Equal(two, want) {
		t.Errorf("what %s answered became %s with its argument", name, short(two))
	}
}

func TestAnswersAreNewMemory(t *testing.T) {
	// One row whose entries all stay, and rows beside others without any, could be handed back as they came.
	for _, l := range [][][]api.Entry{{list(put("a", "", 1))}, {list(put("a", "x", 1), put("b", "", 1), put("c", "", 0))}, {nil, list(put("a", "", 1), put("b", "", 2)), nil}, looks(), dealt(numbered(100), 3), cut(numbered(100), 9)} {
		wantNew(t, "All", l, func(l [][]api.Entry) []api.Entry {
			all, _ := All(l)
			return all
		})
		for _, seq := range []int{0, 1, 5, 20, end} {
			wantNew(t, "Live", l, func(l [][]api.Entry) []api.Entry {
				live, _ := Live(l, seq)
				return live
			})
			for _, last := range []bool{false, true} {
				for i := range l {
					wantNew(t, "Thin", l[i:i+1], func(l [][]api.Entry) []api.Entry {
						left, _ := Thin(l[0], seq, last)
						return left
					})
				}
			}
		}
	}
}

// A cursor tells the same whatever becomes of the rows behind New, and of what others of them were answered.
func TestCursorStays(t *testing.T) {
	for _, l := range [][][]api.Entry{{numbered(40)}, looks(), {nil, numbered(12)}, dealt(numbered(100), 3), cut(numbered(100), 9)} {
		for _, seq := range []int{0, 5, 20, end} {
			for _, from := range []string{"", "b", "key00003"} {
				want, _ := modelFrom(l, seq, from)
				for at := range min(len(want), 4) + 1 {
					arg := withRoom(l)
					c := cursorOf(t, arg, seq, from)
					live, _ := Live(arg, seq)
					for _, x := range want[:at] {
						wantNext(t, c, x, true, api.OK)
					}
					spoil(live)
					spoilRows(arg)
					wantRest(t, c, want[at:])
				}
			}
		}
	}
}

// turns are rows in other orders.
func turns(r *rand.Rand, l [][]api.Entry) [][][]api.Entry {
	back := slices.Clone(l)
	slices.Reverse(back)
	return [][][]api.Entry{l, back, shuffled(r, l), shuffled(r, l)}
}

// drawNear is a number: drawn, or that of one of the entries, or one beside it.
func drawNear(r *rand.Rand, l []api.Entry) int {
	if len(l) == 0 || r.Intn(4) == 0 {
		return drawSeq(r)
	}
	return min(end, max(0, l[r.Intn(len(l))].Seq+r.Intn(3)-1))
}

// drawFrom is a key: drawn, or of one of the entries, or one just behind it.
func drawFrom(r *rand.Rand, l []api.Entry) string {
	if len(l) == 0 || r.Intn(4) == 0 {
		return drawText(r, 3)
	}
	key := l[r.Intn(len(l))].Key
	if r.Intn(3) == 0 && len(key) < api.MaxKey {
		key += "\x00"
	}
	return key
}

func TestRowsInAnyOrder(t *testing.T) {
	r := rand.New(rand.NewSource(1))
	counted, hidden := 0, 0
	for i := range 600 {
		l := drawList(r, []int{4, 12, 40, 120}[i%4])
		rows := drawRows(r, l, []int{1, 2, 3, 8, 64}[i%5])
		seq := drawNear(r, l)
		live := modelCounting(l, seq)
		from := drawFrom(r, l)
		rest, _ := modelFrom(rows, seq, from)
		for _, rows := range turns(r, rows) {
			wantAll(t, rows, l, api.OK)
			wantLive(t, rows, seq, live, api.OK)
			wantCursor(t, rows, seq, from, rest, api.OK)
		}
		counted += len(live)
		hidden += len(l) - len(live)
	}
	if counted < 2000 || hidden < 2000 {
		t.Errorf("%d counted, %d not", counted, hidden)
	}
}

// Two entries with the same Key and Seq are refused whichever rows they are in, whatever stands between.
func TestAnyTwoTheSame(t *testing.T) {
	r := rand.New(rand.NewSource(2))
	for i := range 400 {
		l := append(drawList(r, []int{4, 12, 40, 120}[i%4]), put("\xff\xff\xff\xff\xff\xff", "", 9))
		l = slices.CompactFunc(sorted(l), func(a, b api.Entry) bool { return modelOrder(a, b) == 0 })
		rows := drawRows(r, l, []int{1, 2, 3, 8, 62}[i%5])
		x := l[r.Intn(len(l))]
		if r.Intn(2) == 0 {
			x = put(x.Key, "another", x.Seq)
		}
		for _, rows := range turns(r, append(rows, list(x))) {
			wantAll(t, rows, nil, api.ErrOrder)
			wantLive(t, rows, drawSeq(r), nil, api.ErrOrder)
			wantCursor(t, rows, drawSeq(r), drawFrom(r, l), nil, api.ErrOrder)
		}
	}
}

func TestErrorsOfDrawnRows(t *testing.T) {
	r := rand.New(rand.NewSource(3))
	seen := map[api.Errno]int{}
	for range 3000 {
		rows := drawRows(r, drawList(r, 12), 1+r.Intn(5))
		for range r.Intn(3) {
			row := rows[r.Intn(len(rows))]
			if len(row) > 0 {
				at := r.Intn(len(row))
				row[at] = turned(r, row[at])
			}
			if len(row) > 1 && r.Intn(3) == 0 {
				i, k := r.Intn(len(row)), r.Intn(len(row))
				row[i], row[k] = row[k], row[i]
			}
		}
		all, e := modelAll(rows)
		seen[e]++
		wantAll(t, rows, all, e)
		seq, from := drawSeq(r)-r.Intn(2), drawText(r, api.MaxKey+5)
		live, e := modelLive(rows, seq)
		wantLive(t, rows, seq, live, e)
		rest, e := modelFrom(rows, seq, from)
		wantCursor(t, rows, seq, from, rest, e)
		last := r.Intn(2) == 0
		left, e := modelThin(rows[0], seq, last)
		wantThin(t, rows[0], seq, last, left, e)
	}
	for _, e := range []api.Errno{api.OK, api.ErrKey, api.ErrText, api.ErrArg, api.ErrBad, api.ErrOrder} {
		if seen[e] < 100 {
			t.Errorf("error %d: only %d times", e, seen[e])
		}
	}
}

// liveOf is what counts of rows that may be.
func liveOf(t *testing.T, l [][]api.Entry, seq int) []api.Entry {
	t.Helper()
	live, e := Live(l, seq)
	if e != api.OK {
		t.Fatalf("Live(%s, %d): error %d", shortRows(l), seq, e)
	}
	return live
}

func thinOf(t *testing.T, l []api.Entry, seq int, last bool) []api.Entry {
	t.Helper()
	left, e := Thin(l, seq, last)
	if e != api.OK {
		t.Fatalf("Thin(%s, %d, %t): error %d", short(l), seq, last, e)
	}
	return left
}

// wantSameFrom asks what counts at some numbers from seq on of two heaps of rows.
func wantSameFrom(t *testing.T, r *rand.Rand, thin, all [][]api.Entry, seq int) {
	t.Helper()
	for _, at := range []int{seq, min(end, seq+1), min(end, seq+2), max(seq, drawNear(r, slices.Concat(all...))), max(seq, drawSeq(r)), end} {
		if got, want := liveOf(t, thin, at), liveOf(t, all, at); !slices.Equal(got, want) {
			t.Errorf("thinned at %d: Live(%s, %d) = %s, want %s", seq, shortRows(thin), at, short(got), short(want))
		}
	}
}

// What is thinned is left out of one list, with any others beside it: newer, older, or both among one another.
func TestLiveOfWhatThinLeaves(t *testing.T) {
	r := rand.New(rand.NewSource(4))
	fewer := 0
	for i := range 600 {
		l := drawList(r, []int{4, 12, 40, 120}[i%4])
		rows := drawRows(r, l, 1+i%4)
		seq := drawNear(r, l)
		some := rows[0]
		left := thinOf(t, some, seq, false)
		fewer += len(some) - len(left)
		wantSameFrom(t, r, append(lists(left), rows[1:]...), rows, seq)
		wantSameFrom(t, r, lists(left), lists(some), seq)
		wantSameFrom(t, r, lists(thinOf(t, l, seq, false)), rows, seq)
	}
	if fewer < 500 {
		t.Errorf("only %d were left out", fewer)
	}
}

// With last true it is so alone, and beside rows that are above: whose entries of a key are newer than each one of that key here.
func TestLiveOfWhatThinLeavesLast(t *testing.T) {
	r := rand.New(rand.NewSource(5))
	fewer, more := 0, 0
	for i := range 600 {
		l := drawList(r, []int{4, 12, 40, 120}[i%4])
		seq := drawNear(r, l)
		left := thinOf(t, l, seq, true)
		fewer += len(l) - len(left)
		more += len(thinOf(t, l, seq, false)) - len(left)
		wantSameFrom(t, r, lists(left), lists(l), seq)
		border := drawNear(r, l)
		var above, below []api.Entry
		for _, x := range l {
			if x.Seq > border {
				above = append(above, x)
			} else {
				below = append(below, x)
			}
		}
		wantSameFrom(t, r, lists(above, thinOf(t, below, seq, true)), lists(above, below), seq)
		wantSameFrom(t, r, lists(thinOf(t, above, seq, false), thinOf(t, below, seq, true)), lists(l), seq)
	}
	if fewer < 2000 || more < 200 {
		t.Errorf("only %d were left out, %d of them Gone", fewer, more)
	}
	// A row below would show again what one that is Gone hides: so last is false then.
	above, below := list(taken("a", 2)), list(put("a", "old", 1))
	wantLive(t, lists(thinOf(t, above, 2, false), below), 2, nil, api.OK)
	wantLive(t, lists(thinOf(t, above, 2, true), below), 2, below, api.OK)
}

// All rows of some of twelve entries, at all numbers near them: what Thin leaves is what the model does, and what counts of it is the same at each number from its own on.
func TestThinOfAllSmallRows(t *testing.T) {
	var l []api.Entry
	for _, key := range []string{"a", "a\x00", "b"} {
		l = append(l, put(key, "new", end), taken(key, 4), put(key, "old", 3), taken(key, 0))
	}
	numbers := []int{0, 1, 3, 4, 5, end - 1, end}
	for set := range 1 << len(l) {
		// One broken row tells enough.
		if t.Failed() {
			return
		}
		var some []api.Entry
		for i, x := range l {
			if set>>i&1 == 1 {
				some = append(some, x)
			}
		}
		for i, seq := range numbers {
			live := modelCounting(some, seq)
			wantLive(t, lists(some), seq, live, api.OK)
			for _, last := range []bool{false, true} {
				want, e := modelThin(some, seq, last)
				wantThin(t, some, seq, last, want, e)
				for _, at := range numbers[i:] {
					wantLive(t, lists(want), at, modelCounting(some, at), api.OK)
				}
			}
		}
	}
}

// Thinning again leaves all as it is, and thinning later leaves what thinning later at once does.
func TestThinAgain(t *testing.T) {
	r := rand.New(rand.NewSource(6))
	for i := range 400 {
		l := drawList(r, []int{4, 12, 40, 120}[i%4])
		seq, last := drawNear(r, l), r.Intn(2) == 0
		left := thinOf(t, l, seq, last)
		wantThin(t, left, seq, last, left, api.OK)
		later := max(seq, drawNear(r, l))
		wantThin(t, left, later, last, thinOf(t, l, later, last), api.OK)
	}
}

func TestCursorTellsWhatLiveTells(t *testing.T) {
	r := rand.New(rand.NewSource(7))
	told := 0
	for i := range 600 {
		l := drawList(r, []int{4, 12, 40, 120}[i%4])
		rows := drawRows(r, l, []int{1, 2, 3, 8, 64}[i%5])
		seq, from := drawNear(r, l), drawFrom(r, l)
		want := slices.DeleteFunc(liveOf(t, rows, seq), func(x api.Entry) bool { return modelText(x.Key, from) < 0 })
		told += len(want)
		wantCursor(t, rows, seq, from, want, api.OK)
		wantCursor(t, rows, seq, "", liveOf(t, rows, seq), api.OK)
	}
	if told < 1000 {
		t.Errorf("only %d were told", told)
	}
}
