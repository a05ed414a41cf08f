package page

import (
	"bytes"
	"fmt"
	"math"
	"math/rand"
	"slices"
	"strings"
	"testing"

	"docket/api"
)

const last = 1<<31 - 1 // the greatest number of an entry

// short is some entries as a message tells them.
func short(l []api.Entry) string {
	s := fmt.Sprintf("%d: %#v", len(l), l[:min(len(l), 5)])
	return s[:min(len(s), 200)]
}

func wantLess(t *testing.T, a, b api.Entry, want bool) {
	t.Helper()
	if got := Less(a, b); got != want {
		t.Errorf("Less(%s) = %t", short(list(a, b)), got)
	}
}

func wantCheck(t *testing.T, l []api.Entry, e api.Errno) {
	t.Helper()
	if got := Check(l); got != e {
		t.Errorf("Check(%s) = %d, want %d", short(l), got, e)
	}
}

func wantMake(t *testing.T, l []api.Entry, want []byte, e api.Errno) {
	t.Helper()
	if got, ge := Make(l); !bytes.Equal(got, want) || ge != e {
		t.Errorf("Make(%s) = %d bytes %v, %d, want %d bytes %v, %d", short(l), len(got), got[:min(len(got), 60)], ge, len(want), want[:min(len(want), 60)], e)
	}
}

func wantRead(t *testing.T, b []byte, want []api.Entry, e api.Errno) {
	t.Helper()
	if got, ge := Read(b); !slices.Equal(got, want) || ge != e {
		t.Errorf("Read(%d bytes %v) = %s, %d, want %s, %d", len(b), b[:min(len(b), 60)], short(got), ge, short(want), e)
	}
}

func wantFind(t *testing.T, b []byte, key string, want api.Entry, is bool, e api.Errno) {
	t.Helper()
	if got, gi, ge := Find(b, key); got != want || gi != is || ge != e {
		t.Errorf("Find(%d bytes, %.20q) = %s, %t, %d, want %s, %t, %d", len(b), key, short(list(got)), gi, ge, short(list(want)), is, e)
	}
}

// wantPage asks Make and Read for a page that is written out, and for its entries.
func wantPage(t *testing.T, l []api.Entry, b []byte) {
	t.Helper()
	wantCheck(t, l, api.OK)
	wantMake(t, l, b, api.OK)
	wantRead(t, b, l, api.OK)
}

// wantNone asks all that read a page for ErrBad.
func wantNone(t *testing.T, b []byte) {
	t.Helper()
	wantRead(t, b, nil, api.ErrBad)
	for _, key := range []string{"a", "", chars(api.MaxKey+1, 'a')} {
		wantFind(t, b, key, api.Entry{}, false, api.ErrBad)
	}
}

func TestExamples(t *testing.T) {
	wantPage(t, nil, []byte{0, 0x8d, 0xef, 0x02, 0xd2})
	two := list(put("ab", "x", 1), taken("abc", 0))
	body := []byte{2, 0, 2, 'a', 'b', 1, 0, 1, 'x', 2, 1, 'c', 0, 1}
	wantPage(t, two, sealed(body))
	wantCheck(t, list(put("a", "", 1), put("a", "", 2)), api.ErrOrder)
	wantCheck(t, list(put("a", "", 2), put("a", "", 1)), api.OK)
	wantCheck(t, list(api.Entry{}), api.ErrKey)
	b, e := Make(list(put("a", "", 2), put("a", "", 1)))
	if e != api.OK {
		t.Fatal(e)
	}
	wantFind(t, b, "a", put("a", "", 2), true, api.OK)
	wantFind(t, b, "b", api.Entry{}, false, api.OK)
}

// The sums of these were worked out beside the program.
func TestSumsOfPages(t *testing.T) {
	wantPage(t, list(put("a", "", 0)), []byte{1, 0, 1, 'a', 0, 0, 0, 0x1c, 0x6d, 0xe1, 0x85})
	wantPage(t, list(taken("a", 128)), []byte{1, 0, 1, 'a', 128, 1, 1, 0x4b, 0x77, 0xc8, 0x0a})
}

func TestPages(t *testing.T) {
	most := chars(api.MaxKey, 'k')
	value := chars(api.MaxValue, 'v')
	for _, c := range []struct {
		l     []api.Entry
		parts []any
	}{
		{list(put("a", "", 0)), []any{1, 0, "a", 0, byte(0), ""}},
		{list(put("\x00", "\x00", 0)), []any{1, 0, "\x00", 0, byte(0), "\x00"}},
		{list(taken("\xff", 1)), []any{1, 0, "\xff", 1, byte(1)}},
		{list(put("a", "x", 127)), []any{1, 0, "a", []byte{127, 0}, "x"}},
		{list(put("a", "x", 128)), []any{1, 0, "a", []byte{128, 1, 0}, "x"}},
		{list(put("a", "x", last)), []any{1, 0, "a", []byte{255, 255, 255, 255, 7, 0}, "x"}},
		{list(taken("a", last)), []any{1, 0, "a", []byte{255, 255, 255, 255, 7, 1}}},
		{list(put(most, value, 5)), []any{1, 0, []byte{128, 2}, []byte(most), 5, byte(0), []byte{128, 32}, []byte(value)}},
		// Each key begins the next one.
		{list(put("a", "", 0), put("ab", "", 0), put("abc", "", 0)), []any{3, 0, "a", 0, byte(0), "", 1, "b", 0, byte(0), "", 2, "c", 0, byte(0), ""}},
		{list(put("a", "", 0), put("a\x00", "", 0), put("a\x00\x00", "", 0)), []any{3, 0, "a", 0, byte(0), "", 1, "\x00", 0, byte(0), "", 2, "\x00", 0, byte(0), ""}},
		// The same key, again and again: nothing is left of it.
		{list(put("ab", "z", 3), taken("ab", 2), put("ab", "", 0)), []any{3, 0, "ab", 3, byte(0), "z", 2, "", 2, byte(1), 2, "", 0, byte(0), ""}},
		{list(put(most, "", 1), put(most, "", 0)), []any{2, 0, most, 1, byte(0), "", 256, "", 0, byte(0), ""}},
		{list(put(most[1:], "", 1), put(most, "", 0)), []any{2, 0, most[1:], 1, byte(0), "", 255, "k", 0, byte(0), ""}},
		// What is shared with the one ahead, not with one further ahead.
		{list(put("abc", "", 0), put("abd", "", 0), put("b", "", 0), put("bbd", "", 0)), []any{4, 0, "abc", 0, byte(0), "", 2, "d", 0, byte(0), "", 0, "b", 0, byte(0), "", 1, "bd", 0, byte(0), ""}},
		// A byte that is the same behind one that is not is not shared.
		{list(put("axb", "", 0), put("ayb", "", 0)), []any{2, 0, "axb", 0, byte(0), "", 1, "yb", 0, byte(0), ""}},
		{list(put("\x7f\xff", "", 0), put("\x80\xff", "", 0), put("\x80\xff\x00", "", 0)), []any{3, 0, "\x7f\xff", 0, byte(0), "", 0, "\x80\xff", 0, byte(0), "", 2, "\x00", 0, byte(0), ""}},
	} {
		wantPage(t, c.l, pageOf(c.parts...))
		if b, e := modelMake(c.l); !bytes.Equal(b, pageOf(c.parts...)) || e != api.OK {
			t.Errorf("the model's page of %s is %v", short(c.l), b)
		}
	}
}

// All pairs of these: keys that are the same, that begin another one, that are none; numbers that may be and may not.
func TestLess(t *testing.T) {
	var all []api.Entry
	for _, key := range []string{"", "\x00", "\x00\x00", "a", "a\x00", "a\xff", "ab", "b", "é", "\x7f", "\x80", "\xff", "\xff\xff", chars(256, 'a'), chars(257, 'a')} {
		for _, seq := range []int{math.MinInt, -1, 0, 1, 127, 128, last, last + 1, math.MaxInt} {
			all = append(all, put(key, "z", seq), taken(key, seq), put(key, "", seq))
		}
	}
	for _, a := range all {
		for _, b := range all {
			wantLess(t, a, b, modelLess(a, b))
		}
	}
	wantLess(t, put("a", "", 1), put("b", "", 2), true)
	wantLess(t, put("b", "", 2), put("a", "", 1), false)
	wantLess(t, put("a", "", 2), put("a", "", 1), true)
	wantLess(t, put("a", "", 1), put("a", "", 2), false)
	wantLess(t, put("a", "x", 1), put("a", "y", 1), false)
	wantLess(t, put("a", "y", 1), put("a", "x", 1), false)
	wantLess(t, taken("a", 1), put("a", "x", 1), false)
	wantLess(t, put("a", "x", 1), taken("a", 1), false)
	wantLess(t, put("\x7f", "", 0), put("\x80", "", 0), true)
	wantLess(t, put("a", "", 0), put("a\x00", "", 9), true)
}

// wrong are entries of key each of which has one error alone.
func wrong(key string) map[api.Errno][]api.Entry {
	return map[api.Errno][]api.Entry{
		api.ErrKey:  {{}, put("", "x", 1), taken("", 1), put(key+chars(api.MaxKey+1-len(key), 'k'), "x", 1), put(key+chars(1<<16, 0), "", 0)},
		api.ErrText: {put(key, chars(api.MaxValue+1, 'v'), 0), put(key, chars(1<<16, 0), 1)},
		api.ErrArg:  {put(key, "", -1), put(key, "x", last+1), taken(key, -1), taken(key, 1<<31), put(key, "", 1<<32), put(key, "", 1<<32+1), put(key, "", math.MinInt), put(key, "", math.MaxInt)},
		api.ErrBad:  {{Key: key, Value: "x", Gone: true}, {Key: key, Value: chars(api.MaxValue, 0), Seq: last, Gone: true}},
	}
}

func TestCheckOfOne(t *testing.T) {
	for _, key := range []string{"a", "\x00", "\xff", "\x00\xff", "not utf-8 \xc3", chars(api.MaxKey-1, 0), chars(api.MaxKey, 255)} {
		for _, seq := range []int{0, 1, 127, 128, last - 1, last} {
			wantCheck(t, list(taken(key, seq)), api.OK)
			for _, n := range []int{0, 1, 127, 128, api.MaxValue - 1, api.MaxValue} {
				wantCheck(t, list(put(key, chars(n, 255), seq)), api.OK)
			}
		}
	}
	for e, l := range wrong("a") {
		for _, x := range l {
			wantCheck(t, list(x), e)
			wantMake(t, list(x), nil, e)
		}
	}
}

// Of one entry's errors the first one in the chapter's order is told: ErrKey, ErrText, ErrArg, ErrBad, ErrOrder.
func TestCheckOrderOfErrorsInOne(t *testing.T) {
	order := []api.Errno{api.ErrKey, api.ErrText, api.ErrArg, api.ErrBad, api.ErrOrder}
	for mask := 1; mask < 32; mask++ {
		has := func(e api.Errno) bool { return mask>>slices.Index(order, e)&1 == 1 }
		x := api.Entry{Key: "n", Value: "v", Seq: 1}
		if has(api.ErrText) {
			x.Value = chars(api.MaxValue+1, 'v')
		}
		if has(api.ErrArg) {
			x.Seq = -1
		}
		x.Gone = has(api.ErrBad)
		ahead := put("m", "", 0)
		if has(api.ErrOrder) {
			ahead.Key = "o"
		}
		keys := []string{x.Key}
		if has(api.ErrKey) {
			keys = []string{"", "n" + chars(api.MaxKey, 'n')}
		}
		want := order[slices.IndexFunc(order, has)]
		for _, key := range keys {
			x.Key = key
			wantCheck(t, list(ahead, x), want)
			wantMake(t, list(ahead, x), nil, want)
			wantCheck(t, list(ahead, x, put("z", "", 0)), want)
		}
	}
}

// Of several entries with an error each the first one's is told, whatever the others' are.
func TestCheckOrderOfErrorsInSeveral(t *testing.T) {
	sorts := wrong("m")
	sorts[api.ErrOrder] = list(put("b", "", 0), put("b", "x", 1), taken("a", 0))
	for e, l := range sorts {
		for f, m := range sorts {
			for _, x := range l {
				for _, y := range m {
					all := list(put("b", "", 0), put("c", "", 0), x, y, put("z", "", 0))
					wantCheck(t, all, e)
					wantMake(t, all, nil, e)
					wantCheck(t, slices.Concat(all[:2], all[3:]), f)
				}
			}
		}
	}
	// An entry's key is judged ahead of whether it rises, and that ahead of the next entry.
	wantCheck(t, list(put("b", "", 0), put("a", "", 0), put("", "", 0)), api.ErrOrder)
	wantCheck(t, list(put("b", "", 0), put("", "", 0), put("a", "", 0)), api.ErrKey)
}

func TestCheckOfHowMany(t *testing.T) {
	wantCheck(t, nil, api.OK)
	wantCheck(t, list(), api.OK)
	for _, n := range []int{1, 2, api.MaxEntries - 1, api.MaxEntries} {
		wantCheck(t, numbered(n), api.OK)
	}
	for _, n := range []int{api.MaxEntries + 1, 2 * api.MaxEntries, 1 << 17} {
		wantCheck(t, numbered(n), api.ErrMany)
		wantMake(t, numbered(n), nil, api.ErrMany)
		wantCheck(t, make([]api.Entry, n), api.ErrMany)
		wantMake(t, make([]api.Entry, n), nil, api.ErrMany)
	}
	wantCheck(t, make([]api.Entry, api.MaxEntries), api.ErrKey)
	for e, l := range wrong("zz") {
		for _, x := range l {
			wantCheck(t, append(numbered(api.MaxEntries-1), x), e)
			wantCheck(t, append(numbered(api.MaxEntries), x), api.ErrMany)
		}
	}
}

func TestCheckOfOrder(t *testing.T) {
	for _, c := range []struct {
		l []api.Entry
		e api.Errno
	}{
		{list(put("a", "", 0), put("b", "", 0)), api.OK},
		{list(put("a", "", 0), put("b", "", 9)), api.OK},
		{list(put("a", "", 9), put("b", "", 0)), api.OK},
		{list(put("b", "", 0), put("a", "", 0)), api.ErrOrder},
		{list(put("b", "", 9), put("a", "", 0)), api.ErrOrder},
		{list(put("a", "", 0), put("a", "", 0)), api.ErrOrder},
		{list(put("a", "x", 7), taken("a", 7)), api.ErrOrder},
		{list(taken("a", 7), put("a", "x", 7)), api.ErrOrder},
		{list(put("a", "x", 7), put("a", "y", 7)), api.ErrOrder},
		{list(taken("a", last), put("a", "x", 0)), api.OK},
		{list(put("a", "x", 0), taken("a", last)), api.ErrOrder},
		{list(put("a", "", 0), put("a\x00", "", 0)), api.OK},
		{list(put("a\x00", "", 0), put("a", "", 0)), api.ErrOrder},
		{list(put("\x7f", "", 0), put("\x80", "", 0), put("\xff", "", 0)), api.OK},
		{list(put("\x80", "", 0), put("\x7f", "", 0)), api.ErrOrder},
		{list(put("a", "", 0), put("b", "", 0), put("a", "", 0)), api.ErrOrder},
		{list(put("a", "", 3), put("a", "", 2), put("a", "", 2)), api.ErrOrder},
		{list(put("a", "", 3), put("a", "", 2), put("a", "", 3)), api.ErrOrder},
	} {
		wantCheck(t, c.l, c.e)
		if c.e != api.OK {
			wantMake(t, c.l, nil, c.e)
		}
	}
	l := numbered(api.MaxEntries)
	l[api.MaxEntries-1].Key = l[api.MaxEntries-2].Key
	wantCheck(t, l, api.ErrOrder)
	l[api.MaxEntries-2].Seq = 1
	wantCheck(t, l, api.OK)
}

// What follows: where entries rise, no two have the same Key and Seq, not even two that stand far from each other.
func TestRisingEntriesAreAllDifferent(t *testing.T) {
	r := rand.New(rand.NewSource(1))
	for range 500 {
		l := drawList(r, 12)
		wantCheck(t, l, api.OK)
		if len(l) == 0 {
			continue
		}
		twin := l[r.Intn(len(l))]
		twin.Value, twin.Gone = "", r.Intn(2) == 0
		for at := range len(l) + 1 {
			wantCheck(t, slices.Insert(slices.Clone(l), at, twin), api.ErrOrder)
		}
	}
}

// Entries that do not rise, or may not be, in any places: Check and Make tell what the model does.
func TestCheckOfDrawnEntries(t *testing.T) {
	r := rand.New(rand.NewSource(2))
	seen := map[api.Errno]int{}
	for range 20000 {
		l := drawList(r, 6)
		for range r.Intn(3) {
			x := drawEntry(r)
			switch r.Intn(8) {
			case 0:
				x.Key = ""
			case 1:
				x.Key += chars(api.MaxKey, 1)
			case 2:
				x.Seq = []int{-1, last + 1, math.MinInt, math.MaxInt, -last}[r.Intn(5)]
			case 3:
				x.Value, x.Gone = "x", true
			case 4:
				x.Value = chars(api.MaxValue+1, 'v')
			}
			l = slices.Insert(l, r.Intn(len(l)+1), x)
		}
		want, e := modelMake(l)
		wantCheck(t, l, e)
		wantMake(t, l, want, e)
		seen[e]++
	}
	for _, e := range []api.Errno{api.OK, api.ErrKey, api.ErrText, api.ErrArg, api.ErrBad, api.ErrOrder} {
		if seen[e] < 300 {
			t.Errorf("error %d came only %d times", e, seen[e])
		}
	}
}

func TestMakeOfMostBytes(t *testing.T) {
	for _, size := range []int{65000, cap16 - 1, cap16} {
		l := sized(size)
		b, e := modelMake(l)
		if len(b) != size || e != api.OK {
			t.Fatalf("%d bytes, not %d: %d", len(b), size, e)
		}
		wantPage(t, l, b)
		wantFind(t, b, l[len(l)-1].Key, l[len(l)-1], true, api.OK)
	}
	for _, size := range []int{cap16 + 1, cap16 + 2, cap16 + 5, 80000, 1 << 18} {
		l := sized(size)
		b := sealed(modelBody(l))
		if len(b) != size || modelCheck(l) != api.OK {
			t.Fatalf("%d bytes, not %d", len(b), size)
		}
		wantCheck(t, l, api.OK)
		wantMake(t, l, nil, api.ErrCap)
		wantNone(t, b)
	}
}

// Check's errors come ahead of ErrCap, though the entry that has one stands behind far more bytes than a page's.
func TestMakeOrderOfErrors(t *testing.T) {
	l := sized(cap16 + 1)
	for e, m := range wrong("zz") {
		for _, x := range m {
			wantMake(t, append(slices.Clone(l), x), nil, e)
		}
	}
	wantMake(t, append(slices.Clone(l), l[0]), nil, api.ErrOrder)
	many := make([]api.Entry, api.MaxEntries)
	for i := range many {
		many[i] = put(fmt.Sprintf("%04d%s", i, chars(api.MaxKey-4, 'k')), chars(api.MaxValue, 'v'), last)
	}
	wantMake(t, many, nil, api.ErrCap)
	wantMake(t, append(slices.Clone(many), put("zz", "", 0)), nil, api.ErrMany)
}

func TestMostEntriesOfAPage(t *testing.T) {
	l := make([]api.Entry, api.MaxEntries)
	for i := range l {
		l[i] = taken("a", len(l)-1-i)
	}
	for _, m := range [][]api.Entry{l, l[1:], numbered(api.MaxEntries)} {
		b, e := modelMake(m)
		if e != api.OK {
			t.Fatal(e)
		}
		wantPage(t, m, b)
	}
	// One more, as a page would have it.
	wantNone(t, sealed(modelBody(append(list(taken("a", api.MaxEntries)), l...))))
	wantNone(t, sealed(modelBody(numbered(api.MaxEntries+1))))
}

func TestReadOfTooFewBytes(t *testing.T) {
	wantNone(t, nil)
	wantNone(t, []byte{})
	// Four noughts are the sum of nothing: there is no number of entries ahead of them.
	wantNone(t, []byte{0, 0, 0, 0})
	for n := range 5 {
		for _, c := range []byte{0, 1, 0x8d, 255} {
			wantNone(t, bytes.Repeat([]byte{c}, n))
		}
	}
	whole := pageOf(2, 0, "ab", 1, byte(0), "x", 2, "c", 0, byte(1))
	for n := range whole {
		wantNone(t, whole[:n])
		// Cut off where it may be, and with the sum of what is left.
		if n < len(whole)-4 {
			wantNone(t, sealed(whole[:n]))
		}
	}
}

func TestReadOfAnotherSum(t *testing.T) {
	b := body(1, 0, "ab", 1, byte(0), "x")
	whole := sealed(b)
	wantRead(t, whole, list(put("ab", "x", 1)), api.OK)
	end := whole[len(b):]
	for _, sum := range [][]byte{
		{0, 0, 0, 0},
		{255, 255, 255, 255},
		{end[3], end[2], end[1], end[0]},
		{^end[0], ^end[1], ^end[2], ^end[3]},
		{end[0], end[1], end[2], end[3], 0, 0, 0, 0},
		end[:3],
		nil,
	} {
		wantNone(t, slices.Concat(b, sum))
	}
	wantNone(t, slices.Concat(end, b))
	wantNone(t, sealed(whole))
}

func TestReadOfBytesBehind(t *testing.T) {
	for _, b := range [][]byte{body(0), body(1, 0, "ab", 1, byte(0), "x"), body(1, 0, "ab", 1, byte(1)), modelBody(numbered(20))} {
		for _, more := range [][]byte{{0}, {1}, {255}, {0, 0, 0, 0}, body(2, "c", 0, byte(1)), bytes.Repeat([]byte{0}, 400)} {
			wantNone(t, sealed(slices.Concat(b, more)))
			wantNone(t, slices.Concat(sealed(b), more))
		}
	}
}

func TestReadOfAnotherCount(t *testing.T) {
	entries := body(0, "ab", 1, byte(0), "x", 2, "c", 0, byte(1), 2, "d", 9, byte(0), "")
	want := list(put("ab", "x", 1), taken("abc", 0), put("abd", "", 9))
	wantPage(t, want, pageOf(3, entries))
	for _, n := range []int{0, 1, 2, 4, 5, 127, 128, api.MaxEntries, api.MaxEntries + 1, 1 << 20, 1 << 31, 1 << 32, 1<<32 + 3, math.MaxInt} {
		wantNone(t, pageOf(n, entries))
	}
	wantNone(t, pageOf(-1, entries))
	wantNone(t, pageOf(math.MinInt, entries))
	wantNone(t, pageOf(bytes.Repeat([]byte{255}, 10), entries))
	wantNone(t, pageOf(1))
	wantNone(t, pageOf(api.MaxEntries))
	wantNone(t, pageOf(math.MaxInt))
}

// Each number of a page written in one byte more, in many more, and without an end.
func TestReadOfNumbersInTooManyBytes(t *testing.T) {
	right := [][]byte{{2}, {0}, {2}, []byte("ab"), {1}, {0}, {1}, {'x'}, {2}, {1}, {'c'}, {130, 1}, {1}}
	wantPage(t, list(put("ab", "x", 1), taken("abc", 130)), sealed(slices.Concat(right...)))
	for i, part := range right {
		if part[len(part)-1] >= 'a' {
			continue
		}
		long := slices.Clone(part)
		long[len(long)-1] += 128
		for _, more := range [][]byte{{0}, {128, 0}, {128, 128, 128, 0}, {128, 128, 128, 128, 128, 128, 128, 128, 0}, bytes.Repeat([]byte{128}, 20), {}} {
			parts := slices.Clone(right)
			parts[i] = slices.Concat(long, more)
			wantNone(t, sealed(slices.Concat(parts...)))
		}
	}
}

func TestReadOfWhatIsShared(t *testing.T) {
	first := body(0, "abc", 5, byte(0), "")
	for _, c := range []struct {
		n    int
		more string
		want string
	}{
		{3, "", "abc"}, {3, "c", "abcc"}, {3, "\x00", "abc\x00"}, {2, "d", "abd"}, {2, "da", "abda"}, {1, "c", "ac"}, {0, "b", "b"}, {0, "babc", "babc"},
	} {
		wantPage(t, list(put("abc", "", 5), put(c.want, "", 1)), pageOf(2, first, c.n, c.more, 1, byte(0), ""))
		// Longer than the key ahead.
		wantNone(t, pageOf(2, first, 4, c.more, 1, byte(0), ""))
	}
	for _, n := range []int{5, 127, 128, 256, 257, 1 << 31, 1 << 32, 1<<32 + 3, math.MaxInt, -1, math.MinInt, math.MinInt + 3} {
		wantNone(t, pageOf(2, first, n, "", 1, byte(0), ""))
		wantNone(t, pageOf(2, first, n, "d", 1, byte(0), ""))
		wantNone(t, pageOf(1, n, "a", 1, byte(0), ""))
	}
	wantNone(t, pageOf(1, 1, "a", 1, byte(0), ""))
	wantNone(t, pageOf(1, 1, "", 1, byte(0), ""))
	// Shorter than it can be, of keys that rise.
	for _, key := range []string{"abc", "abcd", "abd", "ac"} {
		most := len(key)
		for !strings.HasPrefix("abc", key[:most]) {
			most--
		}
		for n := range most {
			wantNone(t, pageOf(2, first, n, key[n:], 1, byte(0), ""))
		}
		wantRead(t, pageOf(2, first, most, key[most:], 1, byte(0), ""), list(put("abc", "", 5), put(key, "", 1)), api.OK)
	}
	// A beginning of the key ahead alone is less than it.
	for n := range 3 {
		wantNone(t, pageOf(2, first, n, "", 1, byte(0), ""))
	}
}

func TestReadOfTheByteOfGone(t *testing.T) {
	for c := range 256 {
		for _, more := range [][]byte{nil, {0}, {1}, {1, 'x'}, {0, 0}} {
			b := pageOf(1, 0, "a", 1, byte(c), more)
			switch {
			case c == 0 && bytes.Equal(more, []byte{0}):
				wantPage(t, list(put("a", "", 1)), b)
			case c == 0 && bytes.Equal(more, []byte{1, 'x'}):
				wantPage(t, list(put("a", "x", 1)), b)
			case c == 1 && len(more) == 0:
				wantPage(t, list(taken("a", 1)), b)
			default:
				wantNone(t, b)
			}
		}
	}
}

func TestReadOfEntriesThatMayNotBe(t *testing.T) {
	one := func(key string, seq int, value string) []byte { return pageOf(1, 0, key, seq, byte(0), value) }
	most := chars(api.MaxKey, 'k')
	wantPage(t, list(put(most, chars(api.MaxValue, 'v'), last)), one(most, last, chars(api.MaxValue, 'v')))
	wantNone(t, one("", 1, "x"))
	wantNone(t, pageOf(1, 0, "", 1, byte(1)))
	wantNone(t, pageOf(2, 0, "", 1, byte(1), 0, "a", 0, byte(1)))
	for _, n := range []int{1, 2, 100, 256, 10000} {
		wantNone(t, one(most+chars(n, 'k'), 1, "x"))
	}
	// A key that is too long by both parts together.
	wantPage(t, list(put(most[1:], "", 1), put(most, "", 1)), pageOf(2, 0, most[1:], 1, byte(0), "", 255, "k", 1, byte(0), ""))
	wantNone(t, pageOf(2, 0, most[1:], 1, byte(0), "", 255, "kk", 1, byte(0), ""))
	wantNone(t, pageOf(2, 0, most, 1, byte(0), "", 256, "k", 1, byte(0), ""))
	for _, n := range []int{api.MaxValue + 1, 1 << 13, 1 << 15} {
		wantNone(t, one("a", 1, chars(n, 'v')))
	}
	for _, seq := range []int{last + 1, 1 << 32, 1<<32 + 1, math.MaxInt, -1, -last, math.MinInt, math.MinInt + 1} {
		wantNone(t, one("a", seq, "x"))
		wantNone(t, pageOf(1, 0, "a", seq, byte(1)))
	}
	// An entry that may not be behind some that may.
	wantNone(t, pageOf(2, 0, "a", 1, byte(1), 0, "b", 1<<31, byte(1)))
}

func TestReadOfEntriesThatDoNotRise(t *testing.T) {
	for _, l := range [][]api.Entry{
		list(put("b", "", 0), put("a", "", 0)),
		list(put("b", "", 1), put("a", "", 0)),
		list(put("a", "", 0), put("a", "", 0)),
		list(put("a", "x", 7), taken("a", 7)),
		list(put("a", "", 1), put("a", "", 2)),
		list(put("a", "", 0), put("a", "", last)),
		list(put("ab", "", 0), put("a", "", 0)),
		list(put("a\x00", "", 0), put("a", "", 0)),
		list(put("\x80", "", 0), put("\x7f", "", 0)),
		list(put("a", "", 0), put("b", "", 0), put("b", "", 0)),
		list(put("a", "", 0), put("c", "", 0), put("b", "", 0), put("d", "", 0)),
	} {
		wantNone(t, sealed(modelBody(l)))
	}
}

func TestReadOfTextsThatDoNotEnd(t *testing.T) {
	for _, n := range []int{2, 3, 100, 128, 256, 257, 4096, 4097, 1 << 31, 1 << 32, 1<<32 + 1, math.MaxInt, -1, math.MinInt, math.MinInt + 1} {
		wantNone(t, pageOf(1, 0, n, byte('a')))
		wantNone(t, pageOf(1, 0, "a", 1, byte(0), n, byte('x')))
		wantNone(t, pageOf(2, 0, "a", 1, byte(1), 1, n, byte('x')))
	}
}

func TestFind(t *testing.T) {
	most := chars(api.MaxKey, 'k')
	l := list(put("\x00", "nought", 1), put("a", "new", 9), taken("a", 4), put("a", "old", 1), taken("ab", 3), put("ab", "x", 2), put("b", "", 0), put(most, "most", last), put("\xff", "end", 7))
	b, e := modelMake(l)
	if e != api.OK {
		t.Fatal(e)
	}
	for i, at := range map[string]int{"\x00": 0, "a": 1, "ab": 4, "b": 6, most: 7, "\xff": 8} {
		wantFind(t, b, i, l[at], true, api.OK)
	}
	for _, key := range []string{"A", "\x00\x00", "\x01", "a\x00", "aa", "abc", "b\x00", "c", most[1:], most[1:] + "l", "\xfe", "\xff\x00", "\xff\xff", "nought", "x", "\x80"} {
		wantFind(t, b, key, api.Entry{}, false, api.OK)
	}
	none := pageOf(0)
	for _, key := range []string{"a", "\x00", most} {
		wantFind(t, none, key, api.Entry{}, false, api.OK)
	}
	for _, p := range [][]byte{b, none} {
		wantFind(t, p, "", api.Entry{}, false, api.ErrKey)
		for _, n := range []int{api.MaxKey + 1, 2 * api.MaxKey, 1 << 20} {
			wantFind(t, p, chars(n, 'k'), api.Entry{}, false, api.ErrKey)
		}
	}
}

// Of bytes that are no page and a key that may not be the bytes are told.
func TestFindOrderOfErrors(t *testing.T) {
	for _, b := range [][]byte{nil, {0, 0, 0, 0}, {0, 0x8d, 0xef, 0x02, 0xd3}, pageOf(1), sealed(modelBody(sized(cap16 + 1)))} {
		for _, key := range []string{"a", "", chars(api.MaxKey+1, 'k')} {
			wantFind(t, b, key, api.Entry{}, false, api.ErrBad)
		}
	}
}

func TestFindOfDrawnPages(t *testing.T) {
	r := rand.New(rand.NewSource(3))
	yes, no := 0, 0
	for range 1500 {
		l := drawList(r, 10)
		b, e := Make(l)
		if e != api.OK {
			t.Fatal(e)
		}
		keys := []string{drawKey(r), drawKey(r)}
		for _, x := range l {
			keys = append(keys, x.Key, x.Key+"\x00", x.Key[:len(x.Key)-1])
		}
		for _, key := range keys {
			want, is, e := modelFind(b, key)
			wantFind(t, b, key, want, is, e)
			if is {
				yes++
			} else {
				no++
			}
		}
	}
	if yes < 1000 || no < 1000 {
		t.Errorf("%d were there, %d not", yes, no)
	}
}
