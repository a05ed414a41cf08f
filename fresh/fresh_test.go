package fresh

import (
	"fmt"
	"math"
	"math/rand"
	"slices"
	"testing"

	"docket/api"
	"docket/page"
)

// short is some entries as a message tells them.
func short(l []api.Entry) string {
	s := fmt.Sprintf("%d: %#v", len(l), l[:min(len(l), 5)])
	return s[:min(len(s), 200)]
}

// rowOf is a row into which entries were put in the order in which they stand.
func rowOf(t *testing.T, l []api.Entry) *Row {
	t.Helper()
	r := New()
	for i, x := range l {
		if e := r.Put(x); e != api.OK {
			t.Fatalf("Put of the entry %d of %s: error %d", i, short(l), e)
		}
	}
	return r
}

// rowsOf are rows with the entries of a list, which were put in several orders.
func rowsOf(t *testing.T, l []api.Entry) []*Row {
	t.Helper()
	back := slices.Clone(l)
	slices.Reverse(back)
	return []*Row{rowOf(t, l), rowOf(t, back), rowOf(t, shuffled(rand.New(rand.NewSource(int64(len(l)))), l))}
}

func wantCheck(t *testing.T, l []api.Entry, e api.Errno) {
	t.Helper()
	if got := Check(l); got != e {
		t.Errorf("Check(%s) = %d, want %d", short(l), got, e)
	}
}

func wantAll(t *testing.T, r *Row, want []api.Entry) {
	t.Helper()
	if got, e := r.All(); !slices.Equal(got, want) || e != api.OK {
		t.Errorf("All() = %s, %d, want %s", short(got), e, short(want))
	}
}

func wantListPut(t *testing.T, l []api.Entry, x api.Entry, want []api.Entry, e api.Errno) {
	t.Helper()
	if got, ge := Put(l, x); !slices.Equal(got, want) || ge != e {
		t.Errorf("Put(%s, %s) = %s, %d, want %s, %d", short(l), short(list(x)), short(got), ge, short(want), e)
	}
}

// wantPut asks a list for an error, or for the list with one more, and rows with the same entries for the same. An error leaves a row as it was.
func wantPut(t *testing.T, l []api.Entry, x api.Entry, want []api.Entry, e api.Errno) {
	t.Helper()
	wantListPut(t, l, x, want, e)
	if modelCheck(l) != api.OK {
		return
	}
	for i, r := range rowsOf(t, l) {
		if got := r.Put(x); got != e {
			t.Errorf("row %d of %s, Put(%s) = %d, want %d", i, short(l), short(list(x)), got, e)
		}
		if e != api.OK {
			want = l
		}
		wantAll(t, r, want)
	}
}

func wantListFind(t *testing.T, l []api.Entry, key string, seq int, want api.Entry, is bool, e api.Errno) {
	t.Helper()
	if got, gi, ge := Find(l, key, seq); got != want || gi != is || ge != e {
		t.Errorf("Find(%s, %.20q, %d) = %s, %t, %d, want %s, %t, %d", short(l), key, seq, short(list(got)), gi, ge, short(list(want)), is, e)
	}
}

func wantRowFind(t *testing.T, r *Row, key string, seq int, want api.Entry, is bool, e api.Errno) {
	t.Helper()
	if got, gi, ge := r.Find(key, seq); got != want || gi != is || ge != e {
		t.Errorf("a row's Find(%.20q, %d) = %s, %t, %d, want %s, %t, %d", key, seq, short(list(got)), gi, ge, short(list(want)), is, e)
	}
}

// wantFind asks a list that may be, and rows with its entries.
func wantFind(t *testing.T, l []api.Entry, key string, seq int, want api.Entry, is bool, e api.Errno) {
	t.Helper()
	wantListFind(t, l, key, seq, want, is, e)
	for _, r := range rowsOf(t, l) {
		wantRowFind(t, r, key, seq, want, is, e)
	}
}

func wantNone(t *testing.T, l []api.Entry, key string, seq int) {
	t.Helper()
	wantFind(t, l, key, seq, api.Entry{}, false, api.OK)
}

func TestExamples(t *testing.T) {
	one, two := put("a", "", 1), put("a", "", 2)
	wantPut(t, list(one), two, list(two, one), api.OK)
	wantFind(t, list(two, one), "a", 2, two, true, api.OK)
	wantFind(t, list(two, one), "a", 1, one, true, api.OK)
	wantNone(t, list(two, one), "a", 0)
	wantPut(t, list(one), one, nil, api.ErrOrder)
	wantPut(t, nil, api.Entry{}, nil, api.ErrKey)
	var none *Row
	if e := none.Put(one); e != api.ErrNil {
		t.Errorf("Put of nil: error %d", e)
	}
}

func TestNewRowHasNothing(t *testing.T) {
	wantAll(t, New(), nil)
	for _, key := range []string{"a", "\x00", "\xff", chars(api.MaxKey, 'k')} {
		for _, seq := range []int{0, 1, last} {
			wantNone(t, nil, key, seq)
			wantNone(t, list(), key, seq)
		}
	}
}

// lists are some that may be, and some that may not, with what is told of them.
func lists() []struct {
	l []api.Entry
	e api.Errno
} {
	k, v := chars(api.MaxKey, 'k'), chars(api.MaxValue, 'v')
	a := put("a", "", 1)
	return []struct {
		l []api.Entry
		e api.Errno
	}{
		{nil, api.OK},
		{list(), api.OK},
		{list(a), api.OK},
		{list(taken("a", 0)), api.OK},
		{list(put("\x00", "", last), put("\x00\x00", "", 0), put("\x01", "", 0), put("\xff", "", 0), taken("\xff\xff", 0)), api.OK},
		{list(put(k[1:], v, 0), put(k, v, last), put(k, "", 0)), api.OK},
		{list(put("a", "x", 2), taken("a", 1), put("ab", "", 3), put("abc", "", 0)), api.OK},
		{numbered(api.MaxEntries - 1), api.OK},
		{numbered(api.MaxEntries), api.OK},
		{falling("k", api.MaxEntries), api.OK},
		{numbered(api.MaxEntries + 1), api.ErrMany},
		{make([]api.Entry, api.MaxEntries+1), api.ErrMany},
		{make([]api.Entry, 1<<16), api.ErrMany},
		{make([]api.Entry, api.MaxEntries), api.ErrKey},
		{list(api.Entry{}), api.ErrKey},
		{list(put(k+"k", "", 0)), api.ErrKey},
		{list(a, put("", "", 0)), api.ErrKey},
		{list(put("a", v+"v", 0)), api.ErrText},
		{list(put("a", "", -1)), api.ErrArg},
		{list(put("a", "", math.MinInt)), api.ErrArg},
		{list(put("a", "", last+1)), api.ErrArg},
		{list(put("a", "", math.MaxInt)), api.ErrArg},
		{list(api.Entry{Key: "a", Value: "x", Gone: true}), api.ErrBad},
		{list(a, a), api.ErrOrder},
		{list(a, taken("a", 1)), api.ErrOrder},
		{list(a, put("a", "x", 1)), api.ErrOrder},
		{list(a, put("a", "", 2)), api.ErrOrder},
		{list(put("b", "", 0), put("a", "", 0)), api.ErrOrder},
		{list(put("ab", "", 0), put("a", "", 0)), api.ErrOrder},
		{list(put("a\x00", "", 0), put("a", "", 0)), api.ErrOrder},
		{list(put("\x80", "", 0), put("\x7f", "", 0)), api.ErrOrder},
		{list(put("a", "", 0), put("c", "", 0), put("b", "", 0), put("d", "", 0)), api.ErrOrder},
		{append(numbered(api.MaxEntries-1), a), api.ErrOrder},
		// The first entry with an error tells its own, and of one entry what is looked for first.
		{list(put("b", "", 0), put("a", "", 0), put("", "", 0)), api.ErrOrder},
		{list(put("b", "", 0), put("", v+"v", -1), put("a", "", 0)), api.ErrKey},
		{list(put("b", v+"v", -1), put("", "", 0)), api.ErrText},
		{list(api.Entry{Key: "b", Value: "x", Seq: -1, Gone: true}), api.ErrArg},
		{list(put("b", "", 0), api.Entry{Key: "a", Value: "x", Gone: true}), api.ErrBad},
	}
}

func TestCheck(t *testing.T) {
	for _, c := range lists() {
		wantCheck(t, c.l, c.e)
	}
	r := rand.New(rand.NewSource(1))
	seen := map[api.Errno]int{}
	for range 3000 {
		l := drawEntries(r, r.Intn(5), drawAny)
		if r.Intn(2) == 0 {
			l = sorted(l)
		}
		e := modelCheck(l)
		seen[e]++
		wantCheck(t, l, e)
		wantCheck(t, l, page.Check(l))
	}
	for _, e := range []api.Errno{api.OK, api.ErrKey, api.ErrText, api.ErrArg, api.ErrBad, api.ErrOrder} {
		if seen[e] < 100 {
			t.Errorf("error %d: only %d times", e, seen[e])
		}
	}
}

// A list that may not be tells its own error, whatever is put into it or asked of it.
func TestErrorsOfListsComeFirst(t *testing.T) {
	v := chars(api.MaxValue+1, 'v')
	for _, c := range lists() {
		if c.e == api.OK {
			continue
		}
		for _, x := range []api.Entry{put("a", "", 1), put("z", "", 5), {}, put("b", v, 0), put("b", "", -1), {Key: "b", Value: "x", Gone: true}} {
			wantListPut(t, c.l, x, nil, c.e)
		}
		for _, key := range []string{"a", "b", "", chars(api.MaxKey+1, 'k')} {
			for _, seq := range []int{0, 1, last, -1, last + 1} {
				wantListFind(t, c.l, key, seq, api.Entry{}, false, c.e)
			}
		}
	}
}

func TestPutAmongOthers(t *testing.T) {
	k := chars(api.MaxKey, 'k')
	a3, a1, c9, c5, c0 := put("a", "x", 3), taken("a", 1), put("c", "9", 9), taken("c", 5), put("c", "0", 0)
	l := list(a3, a1, c9, c5, c0)
	for _, c := range []struct {
		x  api.Entry
		at int
	}{
		{put("A", "", 0), 0}, {put("\x00", "", last), 0}, {put("a", "", 4), 0}, {taken("a", last), 0},
		{put("a", "", 2), 1},
		{put("a", "", 0), 2}, {put("b", "", 5), 2}, {put("a\x00", "", last), 2}, {taken("aa", 0), 2}, {put("b\xff", "", 0), 2}, {put("c", "", 10), 2}, {put("c", "", last), 2},
		{put("c", "new", 8), 3}, {put("c", "", 6), 3},
		{put("c", "", 4), 4}, {taken("c", 1), 4},
		{put("c\x00", "", 0), 5}, {put("c\x00", "", last), 5}, {put("d", "", 9), 5}, {taken(k, 1), 5}, {put("\xff", "", 0), 5}, {put("\x80", "", 0), 5},
	} {
		wantPut(t, l, c.x, slices.Insert(slices.Clone(l), c.at, c.x), api.OK)
	}
	for _, x := range []api.Entry{a3, a1, put(k, "", 0)} {
		wantPut(t, nil, x, list(x), api.OK)
		wantPut(t, list(), x, list(x), api.OK)
	}
	wantPut(t, list(a3), a1, list(a3, a1), api.OK)
	wantPut(t, list(a1), a3, list(a3, a1), api.OK)
	wantPut(t, list(c9), a1, list(a1, c9), api.OK)
}

// Keys of which one begins the next one stand by their lengths, whatever their numbers are.
func TestPutKeysThatBeginOthers(t *testing.T) {
	l := list(put("\x00", "", 1), put("\x00\x00", "", 5), put("\x00\x00\x00", "", 0), put("a", "", 0), put("a\x00", "", 9), put("a\x00\xff", "", 2), put("a\xff", "", 4), put("\xff", "", 0), put("\xff\x00", "", 1), put("\xff\xff", "", last))
	wantCheck(t, l, api.OK)
	for i, x := range l {
		wantPut(t, slices.Delete(slices.Clone(l), i, i+1), x, l, api.OK)
	}
}

func TestPutEdgesOfAnEntry(t *testing.T) {
	k, v := chars(api.MaxKey, 'k'), chars(api.MaxValue, 'v')
	l := list(put("b", "x", 7), put("b", "", 3))
	for _, x := range []api.Entry{
		put("a", "", 0), put("\x00", "", 0), put("\xff", "", 0), put(k, "", 0), put(chars(api.MaxKey, 0), "", 0), put(chars(api.MaxKey, 255), "", 0), put(k[1:], "", 0),
		put("b", "", 0), put("b", "", last), put("a", "", last), put("a", "", 1), put("b", v, 5), put("a", v, 5), put("a", v[1:], 5), put("a", "\x00", 5), put("a", "\xff\xfe", 5),
		taken("a", 0), taken("a", last), taken("b", 5), taken(k, last), put(k, v, last),
	} {
		wantPut(t, l, x, sorted(append(slices.Clone(l), x)), api.OK)
		wantPut(t, nil, x, list(x), api.OK)
	}
	for _, c := range []struct {
		x api.Entry
		e api.Errno
	}{
		{put("", "", 0), api.ErrKey}, {put("", "x", 7), api.ErrKey}, {taken("", 1), api.ErrKey},
		{put(k+"k", "", 0), api.ErrKey}, {taken(k+"\x00", 0), api.ErrKey}, {put(chars(1<<16, 'k'), "", 0), api.ErrKey},
		{put("a", v+"v", 0), api.ErrText}, {put("a", chars(1<<16, 0), 0), api.ErrText},
		{put("a", "", -1), api.ErrArg}, {put("a", "x", -last), api.ErrArg}, {put("a", "", math.MinInt), api.ErrArg},
		{put("a", "", last+1), api.ErrArg}, {put("a", "", 1<<32+5), api.ErrArg}, {taken("a", last+1), api.ErrArg}, {put("a", "", math.MaxInt), api.ErrArg},
		{api.Entry{Key: "a", Value: "x", Gone: true}, api.ErrBad}, {api.Entry{Key: "a", Value: v, Seq: last, Gone: true}, api.ErrBad}, {api.Entry{Key: "a", Value: "\x00", Gone: true}, api.ErrBad},
	} {
		wantPut(t, l, c.x, nil, c.e)
		wantPut(t, nil, c.x, nil, c.e)
	}
}

func TestOrderOfErrorsOfAnEntry(t *testing.T) {
	v := chars(api.MaxValue+1, 'v')
	full := numbered(api.MaxEntries)
	for _, c := range []struct {
		x api.Entry
		e api.Errno
	}{
		{api.Entry{Value: v, Seq: -1, Gone: true}, api.ErrKey},
		{api.Entry{Key: chars(api.MaxKey+1, 'k'), Value: v, Seq: -1, Gone: true}, api.ErrKey},
		{api.Entry{Key: "a", Value: v, Seq: -1, Gone: true}, api.ErrText},
		{api.Entry{Key: "a", Value: "x", Seq: last + 1, Gone: true}, api.ErrArg},
		{api.Entry{Key: "a", Value: v, Seq: 1, Gone: true}, api.ErrText},
		// These have the Key and Seq of one that is there.
		{api.Entry{Key: "key00000", Value: v, Seq: 10}, api.ErrText},
		{api.Entry{Key: "key00000", Value: "x", Seq: 10, Gone: true}, api.ErrBad},
	} {
		wantPut(t, full, c.x, nil, c.e)
		wantPut(t, full[:5], c.x, nil, c.e)
	}
	wantPut(t, list(put("a", "", 1)), api.Entry{Key: "a", Value: "x", Seq: 1, Gone: true}, nil, api.ErrBad)
}

func TestPutOfOneThatIsThere(t *testing.T) {
	for _, l := range [][]api.Entry{
		list(put("a", "x", 0)),
		list(taken("a", last)),
		list(put("a", "x", 3), taken("a", 1), put("b", "", 9), put("b", "y", 0), taken("c", 5)),
		numbered(200),
		falling("k", 100),
	} {
		for _, x := range l {
			for _, y := range []api.Entry{x, put(x.Key, x.Value, x.Seq), put(x.Key, "another", x.Seq), put(x.Key, "", x.Seq), taken(x.Key, x.Seq)} {
				wantPut(t, l, y, nil, api.ErrOrder)
			}
		}
	}
}

func TestPutUpToTheMost(t *testing.T) {
	for _, l := range [][]api.Entry{numbered(api.MaxEntries), falling("k", api.MaxEntries)} {
		for _, at := range []int{0, 1, api.MaxEntries / 2, api.MaxEntries - 1} {
			wantPut(t, slices.Delete(slices.Clone(l), at, at+1), l[at], l, api.OK)
			// One that is there is told ahead of how many there are.
			wantPut(t, l, l[at], nil, api.ErrOrder)
			wantPut(t, l, taken(l[at].Key, l[at].Seq), nil, api.ErrOrder)
			wantPut(t, l, put(l[at].Key, "another", l[at].Seq), nil, api.ErrOrder)
			wantPut(t, l, put(l[at].Key, "", l[at].Seq+1), nil, api.ErrMany)
		}
		for _, x := range []api.Entry{put("a", "", 0), put("key00100", "", 7), put("z", "", 0), taken("z", last)} {
			wantPut(t, l, x, nil, api.ErrMany)
			wantPut(t, l[:api.MaxEntries-1], x, sorted(append(slices.Clone(l[:api.MaxEntries-1]), x)), api.OK)
		}
	}
}

func TestFind(t *testing.T) {
	k := chars(api.MaxKey, 'k')
	l := list(
		put("\x00", "nought", 4),
		put("b", "new", 9), taken("b", 6), put("b", "old", 2),
		put("b\x00", "", 3), put("bc", "long", 1),
		taken(k, last), put(k, "first", 0),
		put("\xff", "end", 5),
	)
	for _, c := range []struct {
		key      string
		from, to int
		at       int
	}{
		{"\x00", 0, 3, -1}, {"\x00", 4, last, 0},
		{"b", 0, 1, -1}, {"b", 2, 5, 3}, {"b", 6, 8, 2}, {"b", 9, last, 1},
		{"b\x00", 0, 2, -1}, {"b\x00", 3, last, 4}, {"bc", 0, 0, -1}, {"bc", 1, last, 5},
		{k, 0, last - 1, 7}, {k, last, last, 6},
		{"\xff", 0, 4, -1}, {"\xff", 5, last, 8},
	} {
		for _, seq := range []int{c.from, (c.from + c.to) / 2, c.to} {
			if c.at < 0 {
				wantNone(t, l, c.key, seq)
			} else {
				wantFind(t, l, c.key, seq, l[c.at], true, api.OK)
			}
		}
	}
	for _, key := range []string{"\x00\x00", "\x01", "a", "B", "b\x00\x00", "b\x01", "bb", "bd", "c", k[1:], k[1:] + "j", k[1:] + "l", "\x80", "\xfe\xff", "\xff\x00", chars(api.MaxKey, 0), chars(api.MaxKey, 255), "nought"} {
		for _, seq := range []int{0, 1, 4, 9, last} {
			wantNone(t, l, key, seq)
		}
	}
	// Without those at the ends these are ahead of the first one, and behind the last one.
	for _, key := range []string{"\x00", "a", "\xff", "z", "c"} {
		wantNone(t, l[1:6], key, last)
	}
}

func TestErrorsOfFind(t *testing.T) {
	k := chars(api.MaxKey, 'k')
	for _, l := range [][]api.Entry{nil, list(put("a", "", 0), put(k, "", 1)), numbered(300)} {
		for _, key := range []string{"", k + "k", k + "\x00", chars(1<<16, 'k')} {
			for _, seq := range []int{0, 1, last, -1, last + 1, math.MinInt, math.MaxInt} {
				wantFind(t, l, key, seq, api.Entry{}, false, api.ErrKey)
			}
		}
		for _, key := range []string{"a", "\x00", "\xff", "key00001", k} {
			for _, seq := range []int{-1, -last, math.MinInt, last + 1, 1 << 32, 1<<32 + 1, math.MaxInt} {
				wantFind(t, l, key, seq, api.Entry{}, false, api.ErrArg)
			}
		}
	}
	l := list(put("a", "", 0), put(k, "", 1))
	wantFind(t, l, "a", 0, l[0], true, api.OK)
	wantFind(t, l, k, last, l[1], true, api.OK)
}

func TestFindAmongTheMost(t *testing.T) {
	l := numbered(api.MaxEntries)
	rows := rowsOf(t, l)
	for i, x := range l {
		for _, seq := range []int{x.Seq, x.Seq + 1, x.Seq + 4} {
			wantRowFind(t, rows[i%len(rows)], x.Key, seq, x, true, api.OK)
		}
		wantRowFind(t, rows[i%len(rows)], x.Key, 4, api.Entry{}, false, api.OK)
		wantRowFind(t, rows[i%len(rows)], x.Key+"\x00", last, api.Entry{}, false, api.OK)
	}
	one := falling("k", api.MaxEntries)
	rows = rowsOf(t, one)
	for i, x := range one {
		wantRowFind(t, rows[i%len(rows)], "k", x.Seq, x, true, api.OK)
		wantRowFind(t, rows[i%len(rows)], "k", x.Seq+1, x, true, api.OK)
	}
	for _, i := range []int{0, 1, api.MaxEntries / 2, api.MaxEntries - 1} {
		wantFind(t, l, l[i].Key, l[i].Seq, l[i], true, api.OK)
		wantFind(t, one, "k", one[i].Seq+1, one[i], true, api.OK)
	}
}

func TestRowsThatNewDidNotMake(t *testing.T) {
	var plain Row
	v := chars(api.MaxValue+1, 'v')
	for i, r := range []*Row{nil, {}, new(Row), &plain} {
		for range 2 {
			for _, x := range []api.Entry{put("a", "", 1), {}, put("b", v, 1), put("b", "", -1), {Key: "b", Value: "x", Gone: true}} {
				if e := r.Put(x); e != api.ErrNil {
					t.Errorf("row %d: Put(%s) = %d", i, short(list(x)), e)
				}
			}
			for _, key := range []string{"a", "", chars(api.MaxKey+1, 'k')} {
				for _, seq := range []int{1, -1, last + 1} {
					wantRowFind(t, r, key, seq, api.Entry{}, false, api.ErrNil)
				}
			}
			if l, e := r.All(); len(l) != 0 || e != api.ErrNil {
				t.Errorf("row %d: All() = %s, %d", i, short(l), e)
			}
		}
	}
}

// What New makes is a pointer; a copy of what it points to stays the same row.
func TestCopyOfARow(t *testing.T) {
	r := New()
	c := *r
	var want []api.Entry
	for i, x := range numbered(100) {
		at := []*Row{r, &c}[i%2]
		if e := at.Put(x); e != api.OK {
			t.Fatal(i, e)
		}
		want = append(want, x)
		wantAll(t, r, want)
		wantAll(t, &c, want)
	}
}
