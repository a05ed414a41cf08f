package merge

import (
	"fmt"
	"math"
	"slices"
	"testing"

	"docket/api"
)

// short is some entries as a message tells them.
func short(l []api.Entry) string {
	s := fmt.Sprintf("%d: %#v", len(l), l[:min(len(l), 5)])
	return s[:min(len(s), 200)]
}

// shortRows is some rows as a message tells them.
func shortRows(l [][]api.Entry) string {
	s := fmt.Sprintf("%d rows", len(l))
	for _, row := range l[:min(len(l), 4)] {
		s += fmt.Sprintf(" (%.120s)", short(row))
	}
	return s
}

func wantAll(t *testing.T, l [][]api.Entry, want []api.Entry, e api.Errno) {
	t.Helper()
	if got, ge := All(l); !slices.Equal(got, want) || ge != e {
		t.Errorf("All(%s) = %s, %d, want %s, %d", shortRows(l), short(got), ge, short(want), e)
	}
}

func wantLive(t *testing.T, l [][]api.Entry, seq int, want []api.Entry, e api.Errno) {
	t.Helper()
	if got, ge := Live(l, seq); !slices.Equal(got, want) || ge != e {
		t.Errorf("Live(%s, %d) = %s, %d, want %s, %d", shortRows(l), seq, short(got), ge, short(want), e)
	}
}

func wantThin(t *testing.T, l []api.Entry, seq int, last bool, want []api.Entry, e api.Errno) {
	t.Helper()
	if got, ge := Thin(l, seq, last); !slices.Equal(got, want) || ge != e {
		t.Errorf("Thin(%s, %d, %t) = %s, %d, want %s, %d", short(l), seq, last, short(got), ge, short(want), e)
	}
}

func wantNext(t *testing.T, c *Cursor, want api.Entry, is bool, e api.Errno) {
	t.Helper()
	if got, gi, ge := c.Next(); got != want || gi != is || ge != e {
		t.Errorf("Next() = %s, %t, %d, want %s, %t, %d", short(list(got)), gi, ge, short(list(want)), is, e)
	}
}

// wantRest asks a cursor for all that is left, and some times more behind the last one.
func wantRest(t *testing.T, c *Cursor, want []api.Entry) {
	t.Helper()
	for _, x := range want {
		wantNext(t, c, x, true, api.OK)
	}
	for range 3 {
		wantNext(t, c, api.Entry{}, false, api.OK)
	}
}

func cursorOf(t *testing.T, l [][]api.Entry, seq int, from string) *Cursor {
	t.Helper()
	c, e := New(l, seq, from)
	if c == nil || e != api.OK {
		t.Fatalf("New(%s, %d, %.20q): error %d", shortRows(l), seq, from, e)
	}
	return c
}

// wantCursor asks New for an error, or for a cursor that tells just these.
func wantCursor(t *testing.T, l [][]api.Entry, seq int, from string, want []api.Entry, e api.Errno) {
	t.Helper()
	if e == api.OK {
		wantRest(t, cursorOf(t, l, seq, from), want)
		return
	}
	if c, ge := New(l, seq, from); c != nil || ge != e {
		t.Errorf("New(%s, %d, %.20q) = %v, %d, want error %d", shortRows(l), seq, from, c, ge, e)
	}
}

// wantRows asks All, and Live and New at some numbers that may be, and at some that may not.
func wantRows(t *testing.T, l [][]api.Entry, want []api.Entry, e api.Errno) {
	t.Helper()
	wantAll(t, l, want, e)
	for _, seq := range []int{0, 5, end} {
		var live []api.Entry
		if e == api.OK {
			live = modelCounting(want, seq)
		}
		wantLive(t, l, seq, live, e)
		wantCursor(t, l, seq, "", live, e)
	}
	if e == api.OK {
		e = api.ErrArg
	}
	for _, seq := range []int{-1, end + 1} {
		wantLive(t, l, seq, nil, e)
		wantCursor(t, l, seq, "", nil, e)
		wantCursor(t, l, seq, chars(api.MaxKey+1, 'k'), nil, e)
	}
}

func TestExamples(t *testing.T) {
	a1, a2, a3, b1, b2 := put("a", "", 1), put("a", "", 2), put("a", "", 3), taken("b", 1), put("b", "", 2)
	l := lists(list(a1, b2), list(a3))
	wantAll(t, l, list(a3, a1, b2), api.OK)
	wantLive(t, l, 2, list(a1, b2), api.OK)
	wantLive(t, lists(list(a1, b2), list(taken("a", 3))), 3, list(b2), api.OK)
	wantThin(t, list(a3, a2, a1, b1), 2, false, list(a3, a2, b1), api.OK)
	wantThin(t, list(a3, a2, a1, b1), 2, true, list(a3, a2), api.OK)
	wantAll(t, lists(list(a1), list(a1)), nil, api.ErrOrder)
	wantThin(t, list(put("b", "", 1), a1), 1, true, nil, api.ErrOrder)
}

func TestRowsWithoutEntries(t *testing.T) {
	for _, l := range [][][]api.Entry{nil, {}, {nil}, {{}}, {nil, {}, nil}, make([][]api.Entry, 64)} {
		wantRows(t, l, nil, api.OK)
		wantCursor(t, l, 0, "a", nil, api.OK)
	}
	for _, seq := range []int{0, 1, end} {
		for _, last := range []bool{false, true} {
			wantThin(t, nil, seq, last, nil, api.OK)
			wantThin(t, list(), seq, last, nil, api.OK)
		}
	}
	x, y := put("a", "x", 1), put("b", "y", 2)
	for _, l := range [][][]api.Entry{{nil, {x}, {y}}, {{x}, {}, {y}}, {{y}, {x}, nil}, {nil, {}, {x, y}, {}, nil}, {{y}, nil, nil, {x}}} {
		wantRows(t, l, list(x, y), api.OK)
	}
}

func TestOneRow(t *testing.T) {
	k := chars(api.MaxKey, 'k')
	for _, row := range [][]api.Entry{
		list(put("a", "", 0)),
		list(taken("a", end)),
		list(put("a", "x", 3), taken("a", 2), put("a", "y", 0), put("b", "", 9)),
		list(put("\x00", "", 1), put("\x00\x00", "", 9), put("a", "", 0), put("a\x00", "", 4), put("a\xff", "", 4), put(k[1:], "", 3), put(k, "", 3), put("\xff", "", 0), put("\xff\xff", "", 7)),
		numbered(300),
	} {
		wantRows(t, lists(row), row, api.OK)
	}
}

func TestRowsAmongEachOther(t *testing.T) {
	a9, a5, a0 := put("a", "new", 9), taken("a", 5), put("a", "old", 0)
	b3, b2 := put("b", "x", 3), put("b", "y", 2)
	for _, l := range [][][]api.Entry{
		{{a9, a5, a0, b3, b2}},
		{{a9}, {a5}, {a0}, {b3}, {b2}},
		{{b2}, {b3}, {a0}, {a5}, {a9}},
		{{a9, a0, b2}, {a5, b3}},
		{{a5, b3}, {a9, a0, b2}},
		{{b3, b2}, {a9, a5, a0}},
		{{a0, b3}, {a5}, {a9, b2}},
		{{a0}, {a9, b2}, {a5, b3}},
	} {
		wantRows(t, l, list(a9, a5, a0, b3, b2), api.OK)
		for _, c := range []struct {
			seq  int
			want []api.Entry
		}{
			{0, list(a0)}, {1, list(a0)}, {2, list(a0, b2)}, {3, list(a0, b3)}, {4, list(a0, b3)}, {5, list(b3)}, {8, list(b3)}, {9, list(a9, b3)}, {10, list(a9, b3)}, {end, list(a9, b3)},
		} {
			wantLive(t, l, c.seq, c.want, api.OK)
			wantCursor(t, l, c.seq, "", c.want, api.OK)
		}
	}
}

// Keys of which one begins the next one stand by their lengths, and those of high bytes behind those of low ones, in whichever rows they are.
func TestKeysByTheirBytes(t *testing.T) {
	k := chars(api.MaxKey, 'k')
	l := list(put("\x00", "", 1), put("\x00\x00", "", 5), put(chars(api.MaxKey, 0), "", 3), put("a", "", 0), put("a\x00", "", 9), put("a\x00\xff", "", 2), put("a\xff", "", 4), put("k", "", end), put(k[1:], "", 0), put(k, "", 6), put("\x7f", "", 1), put("\x80", "", 0), put("\xff", "", 0), put("\xff\x00", "", 1), put("\xff\xff", "", end), put(chars(api.MaxKey, 255), "", 2))
	for many := 1; many <= len(l); many++ {
		wantRows(t, dealt(l, many), l, api.OK)
		wantRows(t, cut(l, many), l, api.OK)
	}
}

func TestManyRows(t *testing.T) {
	l := numbered(640)
	for _, many := range []int{2, 3, 63, 64} {
		wantRows(t, dealt(l, many), l, api.OK)
	}
	wantRows(t, cut(l, 10), l, api.OK)
	one := make([][]api.Entry, 64)
	for _, i := range []int{0, 31, 63} {
		one[i] = l[i*4 : i*4+4]
	}
	wantRows(t, one, slices.Concat(l[:4], l[124:128], l[252:256]), api.OK)
	for _, rows := range [][][]api.Entry{
		dealt(l, 65), dealt(l, 66), make([][]api.Entry, 65), make([][]api.Entry, 1000),
		append(make([][]api.Entry, 64), l[:1]),
		// How many rows there are is asked ahead of what is in them.
		append(make([][]api.Entry, 64), list(api.Entry{})),
		append(lists(list(api.Entry{}), make([]api.Entry, 5000)), make([][]api.Entry, 63)...),
		append(lists(l[:1], l[:1]), make([][]api.Entry, 63)...),
	} {
		wantRows(t, rows, nil, api.ErrMany)
	}
}

func TestManyEntriesOfARow(t *testing.T) {
	for _, l := range [][]api.Entry{numbered(api.MaxEntries), falling("k", api.MaxEntries)} {
		wantRows(t, lists(l), l, api.OK)
		wantRows(t, lists(nil, l), l, api.OK)
		x := put("z", "", 1)
		wantRows(t, lists(list(x), l), append(slices.Clone(l), x), api.OK)
		wantRows(t, lists(append(slices.Clone(l), x)), nil, api.ErrMany)
		wantRows(t, lists(list(x), append(slices.Clone(l), x)), nil, api.ErrMany)
	}
	wantRows(t, lists(numbered(api.MaxEntries-1)), numbered(api.MaxEntries-1), api.OK)
	wantRows(t, lists(make([]api.Entry, api.MaxEntries)), nil, api.ErrKey)
	wantRows(t, lists(make([]api.Entry, api.MaxEntries+1)), nil, api.ErrMany)
}

func TestManyEntriesInAll(t *testing.T) {
	for _, l := range [][]api.Entry{numbered(most), falling("k", most)} {
		for _, rows := range [][][]api.Entry{dealt(l, 4), dealt(l, 64), dealt(l, 5), cut(l, api.MaxEntries), cut(l, most/64)} {
			wantRows(t, rows, l, api.OK)
		}
	}
	l := numbered(most + 1)
	for _, rows := range [][][]api.Entry{dealt(l, 5), dealt(l, 64), cut(l, api.MaxEntries), cut(l, api.MaxEntries-1)} {
		wantRows(t, rows, nil, api.ErrMany)
	}
	// As many as a row may have, and the same ones once more: how many there are is told first.
	full := numbered(api.MaxEntries)
	wantRows(t, lists(full, full, full, full), nil, api.ErrOrder)
	wantRows(t, lists(full, full, full, full, full[:1]), nil, api.ErrMany)
	wantRows(t, lists(full, full, full, full, full[:1], list(api.Entry{})), nil, api.ErrKey)
	wantRows(t, lists(full, full, full, full, full[:1], list(put("b", "", 0), put("a", "", 0))), nil, api.ErrOrder)
	wantRows(t, lists(full, full, full, full, full), nil, api.ErrMany)
}

// wrong are lists with an error of their own, which rows and Thin tell alike.
func wrong() []struct {
	l []api.Entry
	e api.Errno
} {
	k, v := chars(api.MaxKey, 'k'), chars(api.MaxValue, 'v')
	a := put("a", "", 1)
	return []struct {
		l []api.Entry
		e api.Errno
	}{
		{list(api.Entry{}), api.ErrKey},
		{list(a, put("", "x", 0)), api.ErrKey},
		{list(put(k+"k", "", 0)), api.ErrKey},
		{list(a, put(k+"\x00", "", 0)), api.ErrKey},
		{list(put("a", v+"v", 0)), api.ErrText},
		{list(a, put("b", v+"\x00", 0)), api.ErrText},
		{list(put("a", "", -1)), api.ErrArg},
		{list(put("a", "", math.MinInt)), api.ErrArg},
		{list(put("a", "", end+1)), api.ErrArg},
		{list(taken("a", math.MaxInt)), api.ErrArg},
		{list(a, put("a", "", -1)), api.ErrArg},
		{list(api.Entry{Key: "a", Value: "x", Gone: true}), api.ErrBad},
		{list(a, api.Entry{Key: "b", Value: "\x00", Gone: true}), api.ErrBad},
		{list(a, a), api.ErrOrder},
		{list(a, taken("a", 1)), api.ErrOrder},
		{list(a, put("a", "x", 1)), api.ErrOrder},
		{list(a, put("a", "", 2)), api.ErrOrder},
		{list(put("a", "", 0), put("a", "", end)), api.ErrOrder},
		{list(put("b", "", 0), put("a", "", 0)), api.ErrOrder},
		{list(put("ab", "", 0), put("a", "", 0)), api.ErrOrder},
		{list(put("a\x00", "", 0), put("a", "", 0)), api.ErrOrder},
		{list(put("\x80", "", 0), put("\x7f", "", 0)), api.ErrOrder},
		{list(put("\xff", "", 0), put("\x00", "", 0)), api.ErrOrder},
		{list(a, put("c", "", 0), put("b", "", 0), put("d", "", 0)), api.ErrOrder},
		// The same Key and Seq twice, with others between.
		{list(a, put("b", "", 0), a), api.ErrOrder},
		{list(put("a", "", 2), a, put("a", "other", 2)), api.ErrOrder},
		{append(numbered(100), numbered(1)...), api.ErrOrder},
		{append(numbered(api.MaxEntries-1), a), api.ErrOrder},
		// The first entry with an error tells its own, and of one entry what is looked for first.
		{list(put("b", "", 0), put("a", "", 0), put("", "", 0)), api.ErrOrder},
		{list(put("b", "", 0), put("", v+"v", -1), put("a", "", 0)), api.ErrKey},
		{list(put("b", v+"v", -1), put("", "", 0)), api.ErrText},
		{list(api.Entry{Key: "b", Value: "x", Seq: -1, Gone: true}, put("a", "", 0)), api.ErrArg},
		{list(put("b", "", 0), api.Entry{Key: "a", Value: "x", Gone: true}), api.ErrBad},
		{list(put("b", "", 0), api.Entry{Key: "a", Value: v + "v", Seq: end + 1, Gone: true}), api.ErrText},
		{list(a, api.Entry{Key: "a", Value: "x", Seq: 1, Gone: true}), api.ErrBad},
	}
}

func TestErrorsOfRows(t *testing.T) {
	fine := numbered(8)
	for _, c := range wrong() {
		wantRows(t, lists(c.l), nil, c.e)
		wantRows(t, lists(fine, c.l), nil, c.e)
		wantRows(t, lists(c.l, fine), nil, c.e)
		wantRows(t, lists(nil, fine, nil, c.l, nil), nil, c.e)
		wantRows(t, append(dealt(numbered(630), 63), c.l), nil, c.e)
		// Rows with the same Keys and Seqs are told behind all that rows tell alone.
		wantRows(t, lists(fine, fine, c.l), nil, c.e)
		wantRows(t, lists(fine, c.l, fine), nil, c.e)
		for _, d := range wrong() {
			wantAll(t, lists(c.l, d.l), nil, c.e)
			wantAll(t, lists(fine, d.l, nil, c.l), nil, d.e)
		}
		// One that is too long is told where it stands.
		wantRows(t, lists(c.l, make([]api.Entry, api.MaxEntries+1)), nil, c.e)
		wantRows(t, lists(make([]api.Entry, api.MaxEntries+1), c.l), nil, api.ErrMany)
	}
}

// edgesOfAnEntry are entries at the edges of what may be.
func edgesOfAnEntry() []api.Entry {
	k, v := chars(api.MaxKey, 'k'), chars(api.MaxValue, 'v')
	return list(
		put("a", "", 0), put("\x00", "", 0), put("\xff", "", 0), put(k, "", 0), put(k[1:], "", 0), put(chars(api.MaxKey, 0), "", 0), put(chars(api.MaxKey, 255), "", 0),
		put("a", "", end), put("b", "", end-1), put("a", "", 1), put("a", v, 5), put("b", v[1:], 5), put("c", "\x00", 5), put("c", "\xff\xfe", 4), put(k, v, end),
		taken("a", 2), taken("b", 0), taken("c", end), taken(k, 7), taken("\xff\xff", 0),
	)
}

func TestEdgesOfEntries(t *testing.T) {
	var each [][]api.Entry
	for _, x := range edgesOfAnEntry() {
		wantRows(t, lists(list(x)), list(x), api.OK)
		wantRows(t, lists(numbered(4), list(x)), sorted(append(numbered(4), x)), api.OK)
		each = append(each, list(x))
	}
	l := sorted(edgesOfAnEntry())
	wantRows(t, each, l, api.OK)
	for seq := range 9 {
		want := modelCounting(l, seq)
		wantLive(t, each, seq, want, api.OK)
		wantCursor(t, each, seq, "", want, api.OK)
	}
}

func TestSameKeyAndSeqInTwoRows(t *testing.T) {
	fill := numbered(60)
	for _, x := range []api.Entry{put("key00007", "x", 25), put("a", "x", 0), put("zz", "", end), taken("key00003", 5), put("key00005", "value 20", 50)} {
		for _, y := range []api.Entry{x, put(x.Key, "another", x.Seq), put(x.Key, "", x.Seq), taken(x.Key, x.Seq)} {
			wantRows(t, lists(list(x), list(y)), nil, api.ErrOrder)
			wantRows(t, lists(list(x), nil, fill, list(y)), nil, api.ErrOrder)
			// In the first and the last of 64 rows, and in two rows of many entries.
			wide := append(lists(list(x)), dealt(fill, 62)...)
			wantRows(t, append(wide, list(y)), nil, api.ErrOrder)
			even, odd := dealt(fill, 2)[0], dealt(fill, 2)[1]
			wantRows(t, lists(sorted(append(even, x)), sorted(append(odd, y))), nil, api.ErrOrder)
			wantRows(t, lists(sorted(append(even, x)), odd), sorted(append(slices.Clone(fill), x)), api.OK)
		}
		// The same Key with another Seq, the same Seq with another Key.
		for _, y := range []api.Entry{put(x.Key, x.Value, 11), put(x.Key+"\x00", x.Value, x.Seq), put("b", x.Value, x.Seq)} {
			wantRows(t, lists(list(x), list(y)), sorted(list(x, y)), api.OK)
		}
	}
	// Three rows, of which any two have one entry together.
	l := fill[:6]
	wantRows(t, lists(l[:2], l[2:4], l[4:]), l, api.OK)
	for i := range l {
		wantRows(t, lists(l[:2], l[2:4], l[4:], l[i:i+1]), nil, api.ErrOrder)
		wantRows(t, lists(l[i:i+1], l), nil, api.ErrOrder)
	}
}

func TestNumbersOfLooks(t *testing.T) {
	for _, l := range [][][]api.Entry{nil, {nil}, {list(put("a", "x", 0))}, dealt(numbered(40), 3)} {
		for _, seq := range []int{-1, -2, -end, math.MinInt, end + 1, end + 2, 1 << 32, 1<<32 + 5, math.MaxInt} {
			wantLive(t, l, seq, nil, api.ErrArg)
			wantCursor(t, l, seq, "", nil, api.ErrArg)
			// The number is asked ahead of the key.
			wantCursor(t, l, seq, chars(api.MaxKey+1, 'k'), nil, api.ErrArg)
			for _, last := range []bool{false, true} {
				wantThin(t, nil, seq, last, nil, api.ErrArg)
				wantThin(t, numbered(40), seq, last, nil, api.ErrArg)
			}
		}
		for _, seq := range []int{0, 1, end - 1, end} {
			want, e := modelLive(l, seq)
			wantLive(t, l, seq, want, e)
			wantCursor(t, l, seq, "", want, e)
		}
	}
}

// All's errors are told ahead of the number's and the key's, however wrong these are.
func TestErrorsOfRowsComeFirst(t *testing.T) {
	twice := lists(numbered(4), numbered(2))
	for _, l := range append([][][]api.Entry{twice, make([][]api.Entry, 65), cut(numbered(most+1), 4000)}, lists(list(api.Entry{})), lists(list(put("b", "", 0), put("a", "", 0)))) {
		_, e := modelAll(l)
		if e == api.OK {
			t.Fatal("these rows may be")
		}
		for _, seq := range []int{0, -1, end + 1} {
			for _, from := range []string{"", "a", chars(api.MaxKey+1, 'k')} {
				wantLive(t, l, seq, nil, e)
				wantCursor(t, l, seq, from, nil, e)
			}
		}
	}
}

// looks are rows whose keys stand for what may be of one at a number.
func looks() [][]api.Entry {
	return lists(
		list(put("above", "", 9), put("gone", "old", 2), put("hidden", "new", 8)),
		list(put("above", "", 7), taken("gone", 4), taken("hidden", 5)),
		list(put("at", "", 5), put("hidden", "old", 3), put("one", "", 0), taken("only", 1)),
		list(put("back", "again", 5), taken("back", 4), put("back", "first", 1), put("high", "", end)),
	)
}

func TestLive(t *testing.T) {
	l := looks()
	above9, above7 := l[0][0], l[1][0]
	goneOld, hiddenNew, hiddenOld := l[0][1], l[0][2], l[2][1]
	at, one, again, first, high := l[2][0], l[2][2], l[3][0], l[3][2], l[3][3]
	for _, c := range []struct {
		seq  int
		want []api.Entry
	}{
		{0, list(one)},
		{1, list(first, one)},
		{2, list(first, goneOld, one)},
		{3, list(first, goneOld, hiddenOld, one)},
		{4, list(hiddenOld, one)},
		{5, list(at, again, one)},
		{6, list(at, again, one)},
		{7, list(above7, at, again, one)},
		{8, list(above7, at, again, hiddenNew, one)},
		{9, list(above9, at, again, hiddenNew, one)},
		{end - 1, list(above9, at, again, hiddenNew, one)},
		{end, list(above9, at, again, hiddenNew, high, one)},
	} {
		wantLive(t, l, c.seq, c.want, api.OK)
		wantCursor(t, l, c.seq, "", c.want, api.OK)
		back := slices.Clone(l)
		slices.Reverse(back)
		wantLive(t, back, c.seq, c.want, api.OK)
	}
}

func TestThin(t *testing.T) {
	x9, x5, x4, x1 := put("x", "nine", 9), taken("x", 5), put("x", "four", 4), put("x", "one", 1)
	y3, y2 := put("y", "", 3), taken("y", 2)
	z7, z6 := taken("z", 7), put("z", "", 6)
	w := put("w", "", 0)
	l := list(w, x9, x5, x4, x1, y3, y2, z7, z6)
	for _, c := range []struct {
		seq         int
		below, last []api.Entry
	}{
		{0, l, l},
		{1, l, l},
		{2, l, list(w, x9, x5, x4, x1, y3, z7, z6)},
		{3, list(w, x9, x5, x4, x1, y3, z7, z6), list(w, x9, x5, x4, x1, y3, z7, z6)},
		{4, list(w, x9, x5, x4, y3, z7, z6), list(w, x9, x5, x4, y3, z7, z6)},
		{5, list(w, x9, x5, y3, z7, z6), list(w, x9, y3, z7, z6)},
		{6, list(w, x9, x5, y3, z7, z6), list(w, x9, y3, z7, z6)},
		{7, list(w, x9, x5, y3, z7), list(w, x9, y3)},
		{8, list(w, x9, x5, y3, z7), list(w, x9, y3)},
		{9, list(w, x9, y3, z7), list(w, x9, y3)},
		{end, list(w, x9, y3, z7), list(w, x9, y3)},
	} {
		wantThin(t, l, c.seq, false, c.below, api.OK)
		wantThin(t, l, c.seq, true, c.last, api.OK)
	}
	for _, seq := range []int{0, 1, end} {
		wantThin(t, list(taken("a", 0)), seq, false, list(taken("a", 0)), api.OK)
		wantThin(t, list(taken("a", 0)), seq, true, nil, api.OK)
		wantThin(t, list(put("a", "x", 0)), seq, true, list(put("a", "x", 0)), api.OK)
	}
	wantThin(t, list(taken("a", end)), end-1, true, list(taken("a", end)), api.OK)
	wantThin(t, list(taken("a", end), put("a", "", 0)), end, true, nil, api.OK)
	wantThin(t, list(taken("a", end), put("a", "", 0)), end, false, list(taken("a", end)), api.OK)
	wantThin(t, list(taken("a", end), put("a", "", 0)), end-1, true, list(taken("a", end), put("a", "", 0)), api.OK)
	// Keys that begin alike are keys apart.
	near := list(put("a", "", 1), put("a\x00", "", 1), taken("aa", 1), put("ab", "", 0))
	wantThin(t, near, 1, false, near, api.OK)
	wantThin(t, near, 1, true, list(near[0], near[1], near[3]), api.OK)
}

func TestErrorsOfThin(t *testing.T) {
	v := chars(api.MaxValue+1, 'v')
	for _, c := range wrong() {
		for _, seq := range []int{0, 1, end, -1, end + 1, math.MinInt} {
			wantThin(t, c.l, seq, false, nil, c.e)
			wantThin(t, c.l, seq, true, nil, c.e)
		}
	}
	l := numbered(most)
	for _, last := range []bool{false, true} {
		wantThin(t, numbered(most+1), 1, last, nil, api.ErrMany)
		wantThin(t, make([]api.Entry, most+1), -1, last, nil, api.ErrMany)
		wantThin(t, make([]api.Entry, 1<<17), 1, last, nil, api.ErrMany)
		wantThin(t, make([]api.Entry, most), -1, last, nil, api.ErrKey)
		wantThin(t, l, -1, last, nil, api.ErrArg)
	}
	// An error is told wherever it stands: what page.Check takes at once ends at none of these.
	for _, at := range []int{0, 1, 2, api.MaxEntries - 1, api.MaxEntries, api.MaxEntries + 1, 2 * api.MaxEntries, 3*api.MaxEntries - 1, most - 2, most - 1} {
		for _, c := range []struct {
			x api.Entry
			e api.Errno
		}{
			{put("", "", 0), api.ErrKey}, {put(l[at].Key, v, 1), api.ErrText}, {put(l[at].Key, "", -1), api.ErrArg}, {put(l[at].Key, "", end+1), api.ErrArg},
			{api.Entry{Key: l[at].Key, Value: "x", Gone: true}, api.ErrBad}, {put("zzz", "", 1), api.ErrOrder}, {put("a", "", 1), api.ErrOrder},
			{l[(at+1)%most], api.ErrOrder}, {l[(at+most-1)%most], api.ErrOrder},
		} {
			more := slices.Clone(l)
			more[at] = c.x
			if c.e == api.ErrOrder && modelCheck(more, most) == api.OK {
				continue // it stands ahead of all, or behind them, without harm
			}
			wantThin(t, more, 5, at%2 == 0, nil, c.e)
			wantThin(t, more, -5, at%2 == 0, nil, c.e)
		}
	}
}

func TestThinOfMany(t *testing.T) {
	for _, n := range []int{api.MaxEntries - 1, api.MaxEntries, api.MaxEntries + 1, 2*api.MaxEntries + 7, most - 1, most} {
		for _, l := range [][]api.Entry{numbered(n), falling("k", n)} {
			for _, seq := range []int{0, 9, 10, 25, 40, n, end} {
				for _, last := range []bool{false, true} {
					want, e := modelThin(l, seq, last)
					wantThin(t, l, seq, last, want, e)
				}
			}
		}
	}
	wantThin(t, falling("k", most), end, true, list(put("k", "v", 2*(most-1))), api.OK)
	wantThin(t, falling("k", most), 0, true, falling("k", most), api.OK)
}

func TestCursorFromAKey(t *testing.T) {
	k := chars(api.MaxKey, 'k')
	b, bb, d, long, far := put("b", "x", 3), put("bb", "", 1), put("d", "y", 2), put(k, "z", 0), put("\xff", "", 4)
	l := lists(list(b, taken("c", 2), d), list(taken("b", 1), put("c", "", 1), put("e", "", 9), far), list(bb, taken("d", 1), long))
	for _, c := range []struct {
		from string
		want []api.Entry
	}{
		{"", list(b, bb, d, long, far)}, {"\x00", list(b, bb, d, long, far)}, {"a", list(b, bb, d, long, far)}, {"a\xff\xff", list(b, bb, d, long, far)}, {chars(api.MaxKey, 'a'), list(b, bb, d, long, far)},
		{"b", list(b, bb, d, long, far)},
		{"b\x00", list(bb, d, long, far)}, {"ba", list(bb, d, long, far)}, {"bb", list(bb, d, long, far)},
		{"bb\x00", list(d, long, far)}, {"c", list(d, long, far)}, {"c\x00", list(d, long, far)}, {"d", list(d, long, far)},
		{"d\x00", list(long, far)}, {"e", list(long, far)}, {"f", list(long, far)}, {"k", list(long, far)}, {k[1:], list(long, far)}, {k, list(long, far)}, {k[1:] + "j", list(long, far)},
		{k[1:] + "l", list(far)}, {"l", list(far)}, {"\x7f", list(far)}, {"\x80", list(far)}, {"\xfe\xff", list(far)}, {"\xff", list(far)},
		{"\xff\x00", nil}, {"\xff\xff", nil}, {chars(api.MaxKey, 255), nil},
	} {
		wantCursor(t, l, 4, c.from, c.want, api.OK)
	}
	for _, from := range []string{k + "k", k + "\x00", chars(api.MaxKey+1, 0), chars(api.MaxKey+1, 255), chars(1<<16, 'a')} {
		for _, seq := range []int{0, 4, end} {
			wantCursor(t, l, seq, from, nil, api.ErrText)
			wantCursor(t, nil, seq, from, nil, api.ErrText)
		}
		wantCursor(t, l, -1, from, nil, api.ErrArg)
		wantCursor(t, l, end+1, from, nil, api.ErrArg)
		wantCursor(t, append(l, l[0]), 4, from, nil, api.ErrOrder)
		wantCursor(t, append(l, list(put("", "", 0))), -1, from, nil, api.ErrKey)
	}
	for _, from := range []string{"", "a", k, chars(api.MaxKey, 0), chars(api.MaxKey, 255)} {
		wantCursor(t, nil, 0, from, nil, api.OK)
		wantCursor(t, lists(nil, list()), end, from, nil, api.OK)
	}
}

// Of no key that counts, and of none left from a key on, a cursor is made all the same.
func TestCursorWithNothing(t *testing.T) {
	wantCursor(t, lists(list(taken("a", 1))), 1, "", nil, api.OK)
	wantCursor(t, lists(list(put("a", "", 1))), 0, "", nil, api.OK)
	wantCursor(t, lists(list(put("a", "", 1))), 1, "b", nil, api.OK)
	c := cursorOf(t, nil, 0, "")
	for range 100 {
		wantNext(t, c, api.Entry{}, false, api.OK)
	}
}

func TestCursorThatNewDidNotMake(t *testing.T) {
	var none *Cursor
	var zero Cursor
	for range 3 {
		for _, c := range []*Cursor{none, &zero, new(Cursor), {}} {
			wantNext(t, c, api.Entry{}, false, api.ErrNil)
		}
	}
	failed, e := New(nil, -1, "")
	if failed != nil || e != api.ErrArg {
		t.Fatal(failed, e)
	}
	wantNext(t, failed, api.Entry{}, false, api.ErrNil)
}

func TestTwoCursorsSideBySide(t *testing.T) {
	l := dealt(numbered(80), 3)
	low, high, again := modelCounting(numbered(80), 20), modelCounting(numbered(80), 40), modelCounting(numbered(80), 40)[5:]
	one, two, three := cursorOf(t, l, 20, ""), cursorOf(t, l, 40, ""), cursorOf(t, l, 40, "key00005")
	for i := range 10 {
		wantNext(t, one, low[i], true, api.OK)
		wantNext(t, two, high[2*i], true, api.OK)
		wantNext(t, two, high[2*i+1], true, api.OK)
		wantNext(t, three, again[i], true, api.OK)
	}
	wantRest(t, two, nil)
	wantRest(t, three, again[10:])
	wantRest(t, one, low[10:])
	wantCursor(t, l, 40, "", high, api.OK)
}
