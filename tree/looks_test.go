package tree

import (
	"fmt"
	"math"
	"math/rand"
	"slices"
	"testing"

	"docket/api"
)

// looked is a tree of the number 6, with tables whose numbers are mixed, and with records of which two count.
func looked() modelTree {
	long := chars(api.MaxKey, 'k')
	return modelTree{
		leaves: []modelLeaf{
			{3, 1, []api.Entry{at("a", "a0", 0), at("b", "b1", 1), at("\x00", "nought", 1), at(long, "long", 2)}},
			{1, 4, []api.Entry{goneAt("a", 2), at("c", chars(api.MaxValue, 'v'), 3)}},
			{0, 10, []api.Entry{at("a", "a4", 4), at("b", "", 3), goneAt("c", 4), at("\xff\xff", "end", 4)}},
			{0, 9, []api.Entry{goneAt("b", 4), at("a", "a3", 3)}},
		},
		records: []modelRecord{
			{3, changes(of("x", "counts for nothing"))},
			{4, changes(of("a", "counts for nothing"), away("\x00"))},
			{5, changes(of("c", "c5"), of("b", "b5"), away("a"))},
			{6, changes(of("a", "a6"), away(long))},
		},
	}
}

func TestGet(t *testing.T) {
	d := looked().on(t, 200)
	long := chars(api.MaxKey, 'k')
	wantOpen(t, d, 6, api.OK)
	for key, want := range map[string][]string{ // at 0 to 6, - for none
		"a":            {"a0", "a0", "-", "a3", "a4", "-", "a6"},
		"b":            {"-", "b1", "b1", "", "-", "b5", "b5"},
		"c":            {"-", "-", "-", chars(api.MaxValue, 'v'), "-", "c5", "c5"},
		"x":            {"-", "-", "-", "-", "-", "-", "-"},
		"\x00":         {"-", "nought", "nought", "nought", "nought", "nought", "nought"},
		"\xff\xff":     {"-", "-", "-", "-", "end", "end", "end"},
		"\xff":         {"-", "-", "-", "-", "-", "-", "-"},
		"\xff\xff\x00": {"-", "-", "-", "-", "-", "-", "-"},
		"aa":           {"-", "-", "-", "-", "-", "-", "-"},
		long:           {"-", "-", "long", "long", "long", "long", "-"},
		long[1:]:       {"-", "-", "-", "-", "-", "-", "-"},
	} {
		for seq, v := range want {
			if v == "-" {
				wantGet(t, d, key, seq, "", false, api.OK)
			} else {
				wantGet(t, d, key, seq, v, true, api.OK)
			}
		}
	}
}

func TestGetErrors(t *testing.T) {
	for _, d := range []api.Disk{formatted(t, 96), looked().on(t, 200)} {
		n, _ := Open(d)
		for _, seq := range []int{math.MinInt, -1, n + 1, end, end + 1, math.MaxInt} {
			wantGet(t, d, "a", seq, "", false, api.ErrArg)
			wantGet(t, d, "", seq, "", false, api.ErrKey)
			wantGet(t, d, chars(api.MaxKey+1, 'k'), seq, "", false, api.ErrKey)
		}
		for seq := range n + 1 {
			wantGet(t, d, "", seq, "", false, api.ErrKey)
			wantGet(t, d, chars(api.MaxKey+1, 'k'), seq, "", false, api.ErrKey)
		}
	}
}

func TestRange(t *testing.T) {
	d := looked().on(t, 200)
	long := chars(api.MaxKey, 'k')
	a, b, c := of("a", "a4"), of("b", "b5"), of("c", "c5")
	nought, k, last := of("\x00", "nought"), of(long, "long"), of("\xff\xff", "end")
	for _, w := range []struct {
		from, to string
		seq      int
		want     []api.Change
	}{
		{"", "", 0, changes(of("a", "a0"))},
		{"", "", 1, changes(nought, of("a", "a0"), of("b", "b1"))},
		{"", "", 2, changes(nought, of("b", "b1"), k)},
		{"", "", 3, changes(nought, of("a", "a3"), of("b", ""), of("c", chars(api.MaxValue, 'v')), k)},
		{"", "", 4, changes(nought, a, k, last)},
		{"", "", 5, changes(nought, b, c, k, last)},
		{"", "", 6, changes(nought, of("a", "a6"), b, c, last)},
		{"b", "", 5, changes(b, c, k, last)}, {"b\x00", "", 5, changes(c, k, last)}, {"bb", "", 5, changes(c, k, last)}, {"\x00", "", 5, changes(nought, b, c, k, last)}, {"\x00\x00", "", 5, changes(b, c, k, last)},
		{"", "c", 5, changes(nought, b)}, {"", "c\x00", 5, changes(nought, b, c)}, {"", "bz", 5, changes(nought, b)}, {"", "\x00", 5, nil}, {"", "\x00\x00", 5, changes(nought)}, {"", "\xff", 5, changes(nought, b, c, k)},
		{"b", "c", 5, changes(b)}, {"b", "b", 5, nil}, {"c", "b", 5, nil}, {"d", "a", 5, nil}, {"a", "b", 5, nil}, {"a", "b\x00", 5, changes(b)}, {"b", "b\x00", 5, changes(b)}, {"ba", "bz", 5, nil},
		{long, "", 5, changes(k, last)}, {"", long, 5, changes(nought, b, c)}, {long, long, 5, nil}, {chars(api.MaxKey, 'l'), "", 5, changes(last)}, {"\xff\xff", "", 5, changes(last)}, {chars(api.MaxKey, 255), "", 5, nil},
		{"", chars(api.MaxKey, 255), 5, changes(nought, b, c, k, last)},
	} {
		wantRange(t, d, w.from, w.to, w.seq, w.want, api.OK)
	}
}

func TestRangeErrors(t *testing.T) {
	long := chars(api.MaxKey+1, 'k')
	for _, d := range []api.Disk{formatted(t, 96), looked().on(t, 200)} {
		n, _ := Open(d)
		for _, seq := range []int{math.MinInt, -1, n + 1, end, end + 1, math.MaxInt} {
			wantRange(t, d, "", "", seq, nil, api.ErrArg)
			wantRange(t, d, "b", "a", seq, nil, api.ErrArg)
		}
		for _, seq := range []int{-1, 0, n, n + 1} {
			for _, c := range [][2]string{{long, ""}, {"", long}, {long, long}, {"a", long}, {long, "a"}} {
				wantRange(t, d, c[0], c[1], seq, nil, api.ErrText)
			}
		}
	}
}

// Drawn trees, each for sure and as writes that wait: what all calls that read tell, at each number.
func TestLooksByModel(t *testing.T) {
	r := rand.New(rand.NewSource(124))
	stale := 0
	for round := range 220 {
		m, keys := drawTree(r)
		d := m.on(t, 200)
		if r.Intn(3) == 0 {
			d = waiting(d)
		}
		n := m.number()
		wantOpen(t, d, n, api.OK)
		wantLevels(t, d, m.levels()...)
		for seq := range n + 1 {
			all := m.counts(seq)
			wantRange(t, d, "", "", seq, all, api.OK)
			from, to := drawText(r, 3), drawText(r, 3)
			wantRange(t, d, from, to, seq, within(all, from, to), api.OK)
			key := keys[r.Intn(len(keys))]
			some := within(all, key, key+"\x00")
			if len(some) == 1 {
				wantGet(t, d, key, seq, some[0].Value, true, api.OK)
			} else {
				wantGet(t, d, key, seq, "", false, api.OK)
			}
		}
		wantRange(t, d, "", "", n+1, nil, api.ErrArg)
		wantGet(t, d, keys[0], n+1, "", false, api.ErrArg)
		if len(m.records) > 0 && m.records[0].seq <= modelMost(m.tabled()) {
			stale++
		}
		if t.Failed() {
			t.Fatalf("round %d: %+v", round, m)
		}
	}
	if stale < 30 {
		t.Errorf("%d rounds had records that count for nothing: too few to tell", stale)
	}
}

// within are those of changes from a key up to ahead of another one.
func within(l []api.Change, from, to string) []api.Change {
	return slices.DeleteFunc(slices.Clone(l), func(c api.Change) bool { return c.Key < from || to != "" && c.Key >= to })
}

// More entries than merge takes at once are still a tree that can be asked.
func TestGreatTree(t *testing.T) {
	var l []api.Change
	for i := range 6 {
		l = append(l, of(modelName(i/3, i+1), tableOf(t, entries(api.MaxEntries, i+1)...)))
	}
	// Only a few of them are the newest still.
	l = append(l, of("l3.9", tableOf(t, goneAt("key0000", 9), at("key4095", "x", 9))))
	d := laid(t, api.MaxSectors, l, nil)
	wantOpen(t, d, 9, api.OK)
	wantLevels(t, d, 3, 3, 0, 1)
	for _, seq := range []int{0, 1, 6, 8, 9} {
		want := 4096
		switch seq {
		case 0:
			want = 0
		case 9:
			want = 4095
		}
		if l, e := Range(d, "", "", seq); len(l) != want || e != api.OK {
			t.Errorf("Range at %d: %d, error %d", seq, len(l), e)
		}
	}
	wantGet(t, d, "key0000", 8, "", true, api.OK)
	wantGet(t, d, "key0000", 9, "", false, api.OK)
	wantGet(t, d, "key4095", 9, "x", true, api.OK)
	wantGet(t, d, "key4096", 9, "", false, api.OK)
	// 24576 entries are more than Thin takes, 12288 are not; 8192 of those are more than a table has.
	for _, c := range []struct {
		level, keep int
		e           api.Errno
	}{{0, 9, api.ErrMany}, {1, 9, api.OK}, {1, 4, api.ErrMany}, {1, 5, api.ErrMany}, {1, 6, api.OK}} {
		if acts, e := Press(d, c.level, c.keep); e != c.e || (e == api.OK) != (acts != nil) {
			t.Errorf("Press(%d, %d): error %d, want %d", c.level, c.keep, e, c.e)
		}
	}
	d = pressed(t, d, 1, 6)
	wantLevels(t, d, 3, 0, 1, 1)
	wantNames(t, d, "l0.1", "l0.2", "l0.3", "l2.10", "l3.9")
	wantRange(t, d, "key0001", "key0003", 9, changes(of("key0001", ""), of("key0002", "")), api.OK)
}

// One key with more entries than merge takes of all rows.
func TestGreatKey(t *testing.T) {
	var l []api.Change
	for i := range 5 {
		var row []api.Entry
		for n := range api.MaxEntries {
			row = append(row, at("k", fmt.Sprint(n%10), i*api.MaxEntries+n))
		}
		l = append(l, of(modelName(i%4, i+1), tableOf(t, row...)))
	}
	d := laid(t, api.MaxSectors, l, nil)
	n := 5*api.MaxEntries - 1
	wantOpen(t, d, n, api.OK)
	for _, seq := range []int{0, 1, 4095, 4096, 16384, 20000, n} {
		value := fmt.Sprint(seq % 4096 % 10)
		wantGet(t, d, "k", seq, value, true, api.OK)
		wantRange(t, d, "", "", seq, changes(of("k", value)), api.OK)
	}
	wantGet(t, d, "k", n+1, "", false, api.ErrArg)
}
