package tree

import (
	"fmt"
	"math"
	"math/rand"
	"slices"
	"testing"

	"docket/api"
	"docket/disk"
	"docket/files"
	"docket/log"
)

// turned is the acts of files.Turn, and the disk behind them.
func turned(t *testing.T, d api.Disk, l ...api.Change) ([]api.Act, api.Disk) {
	t.Helper()
	acts, e := files.Turn(d, l)
	return acts, done(t, d, acts, e)
}

// cleared is the acts of log.Clear, and the disk behind them.
func cleared(t *testing.T, d api.Disk) ([]api.Act, api.Disk) {
	t.Helper()
	acts, e := log.Clear(d)
	return acts, done(t, d, acts, e)
}

// withRecord is the acts of log.Add and a flush, and the disk behind them.
func withRecord(t *testing.T, d api.Disk, seq int, l ...api.Change) ([]api.Act, api.Disk) {
	t.Helper()
	acts, e := log.Add(d, modelRecord{seq, l}.text())
	acts = append(acts, api.Act{Flush: true})
	return acts, done(t, d, acts, e)
}

func wantFlush(t *testing.T, d api.Disk, want []api.Act, e api.Errno) {
	t.Helper()
	got, ge := Flush(d)
	wantActs(t, "Flush", got, ge, want, e)
}

func wantPress(t *testing.T, d api.Disk, level, keep int, want []api.Act, e api.Errno) {
	t.Helper()
	got, ge := Press(d, level, keep)
	wantActs(t, fmt.Sprintf("Press(%d, %d)", level, keep), got, ge, want, e)
}

func wantPut(t *testing.T, d api.Disk, l []api.Change, keep int, want []api.Act, n int, e api.Errno) {
	t.Helper()
	got, gn, ge := Put(d, l, keep)
	wantActs(t, fmt.Sprintf("Put(%s, %d)", short(l), keep), got, ge, want, e)
	if gn != n {
		t.Errorf("Put(%s, %d): the number %d, want %d", short(l), keep, gn, n)
	}
}

func TestFlush(t *testing.T) {
	// Nothing new: without tables, with one, with records that count for nothing alone.
	wantFlush(t, formatted(t, 100), nil, api.OK)
	one := of("l2.7", tableOf(t, at("a", "x", 3)))
	wantFlush(t, laid(t, 100, changes(one), nil), nil, api.OK)
	d := laid(t, 100, changes(one), records(2, 3))
	acts, x := cleared(t, d)
	wantFlush(t, d, acts, api.OK)
	wantOpen(t, x, 3, api.OK)
	wantNames(t, x, "l2.7")
	wantFlush(t, x, nil, api.OK)
	// What is new becomes a table at the level 0, with the next number of all.
	d = laid(t, 100, nil, []string{modelRecord{1, changes(of("b", "y"), of("a", "x"))}.text(), modelRecord{2, changes(away("b"))}.text()})
	first, x := turned(t, d, of("l0.1", tableOf(t, at("a", "x", 1), goneAt("b", 2), at("b", "y", 1))))
	acts, x = cleared(t, x)
	wantFlush(t, d, slices.Concat(first, acts), api.OK)
	wantLevels(t, x, 1, 0, 0, 0)
	// Records that count for nothing are not in it.
	d = laid(t, 100, changes(one, of("l3.5", tableOf(t, at("r", "0", 0)))), records(2, 3, 4, 5))
	first, x = turned(t, d, of("l0.8", tableOf(t, at("r", "4", 4), at("r", "5", 5))))
	acts, x = cleared(t, x)
	wantFlush(t, d, slices.Concat(first, acts), api.OK)
	wantLevels(t, x, 1, 0, 1, 1)
	wantOpen(t, x, 5, api.OK)
	for seq, want := range []string{"0", "0", "0", "0", "4", "5"} {
		wantGet(t, x, "r", seq, want, true, api.OK)
	}
}

func TestFlushErrors(t *testing.T) {
	// No room on the disk: a table of one sector more than the disk has for files.
	text := chars(2000, 'v')
	d := laid(t, 96, nil, []string{modelRecord{1, changes(of("a", text))}.text()})
	wantFlush(t, d, nil, api.ErrSpace)
	if d = laid(t, 97, nil, []string{modelRecord{1, changes(of("a", text))}.text()}); len(tableOf(t, at("a", text, 1))) > 17*api.Sector {
		t.Fatal("too long a table")
	}
	wantOpen(t, flushed(t, d), 1, api.OK)
	// A directory that is full: files.Turn's error goes ahead of log.Clear's.
	for _, many := range []int{31, 32} {
		var l []api.Change
		for i := range many {
			l = append(l, of(modelName(i%4, i+1), tableOf(t, at("k", "", i+1))))
		}
		d = laid(t, 300, l, records(many+1))
		if many == 32 {
			wantFlush(t, d, nil, api.ErrFull)
			wantFlush(t, lastEpoch(t, d), nil, api.ErrFull)
			continue
		}
		wantLevels(t, flushed(t, d), 9, 8, 8, 7)
		wantFlush(t, lastEpoch(t, d), nil, api.ErrSpace)
	}
	// A log that can't be emptied any more, with something new, and without.
	wantFlush(t, lastEpoch(t, laid(t, 100, nil, records(1))), nil, api.ErrSpace)
	wantFlush(t, lastEpoch(t, laid(t, 100, changes(of("l0.1", tableOf(t, at("a", "", 1)))), records(1))), nil, api.ErrSpace)
	wantFlush(t, lastEpoch(t, laid(t, 100, nil, nil)), nil, api.OK)
}

// lastEpoch is a disk on which one more sector of the log, behind the records, begins with the greatest epoch of all.
func lastEpoch(t *testing.T, d api.Disk) api.Disk {
	t.Helper()
	return done(t, d, []api.Act{{Put: api.Put{Sector: 79, Data: []byte("\xff\xff\xff\xff" + chars(124, 0))}}, {Flush: true}}, api.OK)
}

// stacked is a tree with tables at all levels, the newer the nearer to the level 0.
func stacked() modelTree {
	return modelTree{leaves: []modelLeaf{
		{0, 9, []api.Entry{at("a", "a9", 9), goneAt("b", 8), at("a", "a8", 8)}},
		{0, 10, []api.Entry{at("c", "c7", 7), goneAt("d", 9)}},
		{1, 11, []api.Entry{at("a", "a6", 6), at("b", "b5", 5)}},
		{2, 2, []api.Entry{goneAt("c", 4), at("d", "d3", 3), at("a", "a4", 4)}},
		{3, 1, []api.Entry{at("a", "a1", 1), goneAt("a", 2), at("c", "c1", 1), goneAt("d", 0)}},
	}}
}

func TestPress(t *testing.T) {
	d := stacked().on(t, 200)
	wantOpen(t, d, 9, api.OK)
	names := func(l ...string) []api.Change {
		var out []api.Change
		for _, name := range l {
			out = append(out, away(name))
		}
		return out
	}
	for _, c := range []struct {
		level, keep int
		gone        []api.Change
		name        string
		left        []api.Entry
	}{
		// The levels 2 and 3 have older ones: what is gone stays. By their names l0.10 stands ahead of l0.9.
		{0, 0, names("l0.10", "l0.9", "l1.11"), "l1.12", slices.Concat(stacked().leaves[0].entries, stacked().leaves[1].entries, stacked().leaves[2].entries)},
		{0, 6, names("l0.10", "l0.9", "l1.11"), "l1.12", []api.Entry{at("a", "a9", 9), at("a", "a8", 8), at("a", "a6", 6), goneAt("b", 8), at("b", "b5", 5), at("c", "c7", 7), goneAt("d", 9)}},
		{0, 8, names("l0.10", "l0.9", "l1.11"), "l1.12", []api.Entry{at("a", "a9", 9), at("a", "a8", 8), goneAt("b", 8), at("c", "c7", 7), goneAt("d", 9)}},
		{0, 9, names("l0.10", "l0.9", "l1.11"), "l1.12", []api.Entry{at("a", "a9", 9), goneAt("b", 8), at("c", "c7", 7), goneAt("d", 9)}},
		// Some of the others are older, some newer.
		{1, 9, names("l1.11", "l2.2"), "l2.12", []api.Entry{at("a", "a6", 6), at("b", "b5", 5), goneAt("c", 4), at("d", "d3", 3)}},
		// All others are newer: what is gone at keep, goes.
		{2, 9, names("l2.2", "l3.1"), "l3.12", []api.Entry{at("a", "a4", 4), at("d", "d3", 3)}},
		{2, 4, names("l2.2", "l3.1"), "l3.12", []api.Entry{at("a", "a4", 4), at("d", "d3", 3)}},
		{2, 3, names("l2.2", "l3.1"), "l3.12", []api.Entry{at("a", "a4", 4), goneAt("c", 4), at("c", "c1", 1), at("d", "d3", 3)}},
		{2, 1, names("l2.2", "l3.1"), "l3.12", []api.Entry{at("a", "a4", 4), goneAt("a", 2), at("a", "a1", 1), goneAt("c", 4), at("c", "c1", 1), at("d", "d3", 3)}},
		{3, 9, names("l3.1"), "l3.12", []api.Entry{at("c", "c1", 1)}},
		{3, 1, names("l3.1"), "l3.12", []api.Entry{goneAt("a", 2), at("a", "a1", 1), at("c", "c1", 1)}},
		{3, 0, names("l3.1"), "l3.12", []api.Entry{goneAt("a", 2), at("a", "a1", 1), at("c", "c1", 1)}},
	} {
		want, x := turned(t, d, append(c.gone, of(c.name, tableOf(t, c.left...)))...)
		wantPress(t, d, c.level, c.keep, want, api.OK)
		wantOpen(t, x, 9, api.OK)
		for seq := c.keep; seq <= 9; seq++ {
			wantRange(t, x, "", "", seq, stacked().counts(seq), api.OK)
		}
	}
}

// The acts do not tell in which order files.Turn is told of the tables: they go first, rising by their names.
func TestPressTurnsInOrder(t *testing.T) {
	for _, c := range []struct {
		m     modelTree
		level int
		want  []string
	}{
		{stacked(), 0, []string{"l0.10", "l0.9", "l1.11", "l1.12"}}, {stacked(), 1, []string{"l1.11", "l2.2", "l2.12"}}, {stacked(), 2, []string{"l2.2", "l3.1", "l3.12"}}, {stacked(), 3, []string{"l3.1", "l3.12"}},
		{many(0, 0, 0, 11), 3, []string{"l3.1", "l3.10", "l3.11", "l3.2", "l3.3", "l3.4", "l3.5", "l3.6", "l3.7", "l3.8", "l3.9", "l3.12"}},
		{many(3, 9, 0, 0), 0, []string{"l0.10", "l0.11", "l0.12", "l1.1", "l1.2", "l1.3", "l1.4", "l1.5", "l1.6", "l1.7", "l1.8", "l1.9", "l1.13"}},
	} {
		x, err := open(c.m.on(t, 200))
		if err != nil {
			t.Fatal(err)
		}
		l, err := x.pressing(c.level, 0)
		var got []string
		for i, y := range l {
			got = append(got, y.Key)
			if y.Gone != (i < len(l)-1) {
				t.Errorf("%s: gone is %t", y.Key, y.Gone)
			}
		}
		if err != nil || !slices.Equal(got, c.want) {
			t.Errorf("press of %d: %v, %v, want %v", c.level, got, err, c.want)
		}
	}
}

func TestPressOfFewTables(t *testing.T) {
	// No other table: what is gone stays, though nothing lies below.
	d := laid(t, 100, changes(of("l0.3", tableOf(t, goneAt("a", 1), at("b", "", 2), goneAt("b", 3)))), nil)
	want, x := turned(t, d, away("l0.3"), of("l1.4", tableOf(t, goneAt("a", 1), goneAt("b", 3))))
	wantPress(t, d, 0, 3, want, api.OK)
	wantOpen(t, x, 3, api.OK)
	want, _ = turned(t, x, away("l1.4"), of("l2.5", tableOf(t, goneAt("a", 1), goneAt("b", 3))))
	wantPress(t, x, 1, 0, want, api.OK)
	// The last level goes into itself.
	d = laid(t, 100, changes(of("l3.3", tableOf(t, goneAt("a", 1), at("b", "", 2))), of("l3.2", tableOf(t, at("a", "", 0)))), nil)
	want, x = turned(t, d, away("l3.2"), away("l3.3"), of("l3.4", tableOf(t, goneAt("a", 1), at("b", "", 2))))
	wantPress(t, d, 3, 1, want, api.OK)
	wantNames(t, x, "l3.4")
	// All are left out: the tables go, and none comes.
	d = laid(t, 100, changes(of("l2.1", tableOf(t, goneAt("a", 1), goneAt("b", 2))), of("l3.2", tableOf(t, at("a", "", 0), at("b", "", 1))), of("l0.3", tableOf(t, at("c", "", 3)))), nil)
	want, x = turned(t, d, away("l2.1"), away("l3.2"))
	wantPress(t, d, 2, 2, want, api.OK)
	wantPress(t, d, 2, 3, want, api.OK)
	wantNames(t, x, "l0.3")
	wantOpen(t, x, 3, api.OK)
	// Not at a number ahead, and not if another one has their greatest number too.
	want, _ = turned(t, d, away("l2.1"), away("l3.2"), of("l3.4", tableOf(t, goneAt("b", 2), at("b", "", 1))))
	wantPress(t, d, 2, 1, want, api.OK)
	d = laid(t, 100, changes(of("l2.1", tableOf(t, goneAt("a", 1), goneAt("b", 2))), of("l0.3", tableOf(t, at("c", "", 2), at("d", "", 3)))), nil)
	want, _ = turned(t, d, away("l2.1"), of("l3.4", tableOf(t, goneAt("a", 1), goneAt("b", 2))))
	wantPress(t, d, 2, 3, want, api.OK)
	// Fresh entries are no table: they are not pressed, are no others, and stay in the log.
	d = laid(t, 100, changes(of("l0.1", tableOf(t, goneAt("a", 1), at("b", "", 2)))), records(2, 3, 4))
	want, x = turned(t, d, away("l0.1"), of("l1.2", tableOf(t, goneAt("a", 1), at("b", "", 2))))
	wantPress(t, d, 0, 4, want, api.OK)
	wantOpen(t, x, 4, api.OK)
	wantGet(t, x, "r", 4, "4", true, api.OK)
	// The next level alone has tables: it is the level that is asked for.
	d = laid(t, 100, changes(of("l1.1", tableOf(t, at("a", "", 1)))), nil)
	wantPress(t, d, 0, 0, nil, api.ErrNone)
	wantPress(t, d, 2, 0, nil, api.ErrNone)
	want, _ = turned(t, d, away("l1.1"), of("l2.2", tableOf(t, at("a", "", 1))))
	wantPress(t, d, 1, 0, want, api.OK)
}

func TestPressErrors(t *testing.T) {
	d := laid(t, 100, changes(of("l1.1", tableOf(t, at("a", "", 3)))), records(4))
	for _, level := range []int{math.MinInt, -1, 4, 5, math.MaxInt} {
		for _, keep := range []int{-1, 0, 4, 5} {
			wantPress(t, d, level, keep, nil, api.ErrArg)
		}
	}
	for level := range 4 {
		for _, keep := range []int{math.MinInt, -1, 5, end, end + 1, math.MaxInt} {
			wantPress(t, d, level, keep, nil, api.ErrArg)
		}
		if level == 1 {
			continue
		}
		for keep := range 5 {
			wantPress(t, d, level, keep, nil, api.ErrNone)
		}
	}
	for keep := range 5 {
		if acts, e := Press(d, 1, keep); len(acts) == 0 || e != api.OK {
			t.Errorf("Press(1, %d): error %d", keep, e)
		}
	}
	wantPress(t, formatted(t, 96), 0, 1, nil, api.ErrArg)
	wantPress(t, formatted(t, 96), 0, 0, nil, api.ErrNone)
	// The old tables are there till the new one is: it needs room beside them.
	text := tableOf(t, at("a", chars(1000, 'v'), 1))
	wantPress(t, laid(t, 96, changes(of("l0.1", text)), nil), 0, 0, nil, api.ErrSpace)
	if _, e := Press(laid(t, 106, changes(of("l0.1", text)), nil), 0, 0); e != api.OK || len(text) > 13*api.Sector {
		t.Errorf("error %d, a table of %d bytes", e, len(text))
	}
}

// A put where the log has room: its sectors, and a flush.
func TestPut(t *testing.T) {
	d := formatted(t, 96)
	want, x := withRecord(t, d, 1, of("b", "y"), away("a"))
	wantPut(t, d, changes(of("b", "y"), away("a")), 0, want, 1, api.OK)
	wantOpen(t, x, 1, api.OK)
	want, y := withRecord(t, x, 2, of("a", chars(300, 'v')))
	for _, keep := range []int{0, 1} {
		wantPut(t, x, changes(of("a", chars(300, 'v'))), keep, want, 2, api.OK)
	}
	wantOpen(t, y, 2, api.OK)
	if got := shortActs(want); got != "(18 19 20 flush)" {
		t.Errorf("acts %s", got)
	}
	want, _ = withRecord(t, y, 3, numbered(api.MaxFresh)...)
	wantPut(t, y, numbered(api.MaxFresh), 2, want, 3, api.OK)
	// Behind tables, and behind records that count for nothing.
	d = laid(t, 100, changes(of("l1.4", tableOf(t, at("a", "x", 7)))), records(6, 7))
	want, x = withRecord(t, d, 8, of("a", "y"))
	wantPut(t, d, changes(of("a", "y")), 7, want, 8, api.OK)
	wantGet(t, x, "a", 7, "x", true, api.OK)
	wantGet(t, x, "a", 8, "y", true, api.OK)
	// Many tables at a level are no reason to press, as long as the log has room.
	d = many(4, 5, 6, 7).on(t, 300)
	want, _ = withRecord(t, d, 23, of("a", "y"))
	wantPut(t, d, changes(of("a", "y")), 0, want, 23, api.OK)
}

func TestPutErrors(t *testing.T) {
	d := laid(t, 100, nil, records(1, 2, 3))
	long, tooMany := of("k", chars(api.MaxValue+1, 'v')), numbered(api.MaxFresh+1)
	for _, keep := range []int{0, 3, -1, 4, math.MinInt, math.MaxInt} {
		wantPut(t, d, nil, keep, nil, 0, api.ErrNone)
		wantPut(t, d, tooMany, keep, nil, 0, api.ErrMany)
		wantPut(t, d, changes(of("", "")), keep, nil, 0, api.ErrKey)
		wantPut(t, d, changes(long), keep, nil, 0, api.ErrText)
		wantPut(t, d, changes(of("k", chars(api.MaxRecord, 'v'))), keep, nil, 0, api.ErrText)
		wantPut(t, d, changes(of("a", ""), away("a")), keep, nil, 0, api.ErrBad)
		if keep < 0 || keep > 3 {
			wantPut(t, d, changes(of("a", "")), keep, nil, 0, api.ErrArg)
		} else if _, n, e := Put(d, changes(of("a", "")), keep); n != 4 || e != api.OK {
			t.Errorf("Put with keep %d: %d, %d", keep, n, e)
		}
	}
	// The greatest number of all: there is none behind it. The record with the number below fits yet, with a byte more of it not.
	d = laid(t, 100, changes(of("l0.1", tableOf(t, at("a", "", end-1)))), nil)
	want, x := withRecord(t, d, end, of("a", "x"))
	wantPut(t, d, changes(of("a", "x")), end-1, want, end, api.OK)
	wantOpen(t, x, end, api.OK)
	wantGet(t, x, "a", end, "x", true, api.OK)
	for _, x := range []api.Disk{x, flushed(t, x)} {
		wantPut(t, x, changes(of("a", "x")), end, nil, 0, api.ErrArg)
		wantPut(t, x, nil, end, nil, 0, api.ErrArg)
		wantPut(t, x, tooMany, end, nil, 0, api.ErrArg)
	}
	fits := changes(of("k", chars(api.MaxRecord-7, 'v')))
	d = laid(t, 100, changes(of("l0.1", tableOf(t, at("a", "", 126)))), nil)
	if _, n, e := Put(d, fits, 0); n != 127 || e != api.OK {
		t.Errorf("Put = %d, %d", n, e)
	}
	d = laid(t, 100, changes(of("l0.1", tableOf(t, at("a", "", 127)))), nil)
	wantPut(t, d, fits, 0, nil, 0, api.ErrText)
}

// many is a tree with so many tables at each level, each with an entry of its own.
func many(levels ...int) modelTree {
	var m modelTree
	n := 0
	for level := 3; level >= 0; level-- {
		for range levels[level] {
			n++
			m.leaves = append(m.leaves, modelLeaf{level, n, []api.Entry{at(fmt.Sprint("k", n%5), fmt.Sprint(n), n)}})
		}
	}
	return m
}

// withLog is a tree with records behind its tables that leave so many sectors of the log free.
func withLog(m modelTree, free int) modelTree {
	n := m.number()
	for i := range 63 - free {
		m.records = append(m.records, modelRecord{n + 1 + i, changes(of(fmt.Sprint("k", i%7), "log"))})
	}
	return m
}

// A put for which the log has no room: a flush, and presses of the levels that have four tables then.
func TestPutWithoutRoomInTheLog(t *testing.T) {
	small, great := changes(of("n", "new")), changes(of("n", chars(112, 'n')))
	for _, c := range []struct {
		free  int
		l     []api.Change
		flush bool
	}{{0, small, true}, {1, small, false}, {1, great, true}, {2, great, false}, {36, changes(of("n", chars(4088, 'n'))), true}, {37, changes(of("n", chars(4088, 'n'))), false}, {63, great, false}} {
		m := withLog(many(0, 0, 0, 0), c.free)
		d := m.on(t, 200)
		s := modelStep{disk: d, tree: m}
		s.put(c.l, 0)
		wantPut(t, d, c.l, 0, s.acts, 64-c.free, s.e)
		want := 0
		if c.flush {
			want = 1
		}
		wantLevels(t, s.disk, want, 0, 0, 0)
		if s.e != api.OK {
			t.Errorf("error %d", s.e)
		}
	}
}

func TestPutPresses(t *testing.T) {
	for _, c := range []struct{ ahead, behind []int }{
		{[]int{0, 0, 0, 0}, []int{1, 0, 0, 0}}, {[]int{2, 0, 0, 0}, []int{3, 0, 0, 0}}, {[]int{3, 0, 0, 0}, []int{0, 1, 0, 0}}, {[]int{4, 0, 0, 0}, []int{0, 1, 0, 0}}, {[]int{5, 0, 0, 0}, []int{0, 1, 0, 0}},
		{[]int{0, 3, 3, 3}, []int{1, 3, 3, 3}}, {[]int{2, 4, 0, 0}, []int{3, 0, 1, 0}}, {[]int{0, 5, 2, 0}, []int{1, 0, 1, 0}}, {[]int{2, 3, 4, 1}, []int{3, 3, 0, 1}}, {[]int{1, 0, 5, 0}, []int{2, 0, 0, 1}},
		{[]int{3, 4, 0, 0}, []int{0, 1, 0, 0}}, {[]int{3, 5, 5, 5}, []int{0, 1, 0, 1}}, {[]int{2, 4, 4, 0}, []int{3, 0, 1, 0}}, {[]int{2, 3, 3, 8}, []int{3, 3, 3, 8}}, {[]int{2, 4, 3, 0}, []int{3, 0, 1, 0}},
		{[]int{3, 3, 3, 0}, []int{0, 1, 3, 0}}, {[]int{3, 3, 4, 4}, []int{0, 1, 0, 1}},
	} {
		m := withLog(many(c.ahead...), 0)
		d := m.on(t, 400)
		n := m.number()
		for _, keep := range []int{0, 1, n / 2, n - 1, n} {
			s := modelStep{disk: d, tree: m}
			s.put(changes(of("n", "new")), keep)
			wantPut(t, d, changes(of("n", "new")), keep, s.acts, n+1, s.e)
			wantLevels(t, s.disk, c.behind...)
			wantOpen(t, s.disk, n+1, api.OK)
			if s.e != api.OK || !slices.Equal(s.tree.levels(), c.behind) {
				t.Errorf("%v: error %d, levels %v, want %v", c.ahead, s.e, s.tree.levels(), c.behind)
			}
		}
	}
}

func TestPutWithoutRoom(t *testing.T) {
	l := changes(of("n", "new"))
	// None for the new table.
	m := withLog(modelTree{leaves: []modelLeaf{{0, 1, []api.Entry{at("a", chars(1900, 'v'), 1)}}}}, 0)
	wantPut(t, m.on(t, 96), l, 0, nil, 0, api.ErrSpace)
	if _, n, e := Put(m.on(t, 130), l, 0); n != 65 || e != api.OK {
		t.Errorf("Put = %d, %d", n, e)
	}
	// For the new table, but none for the press of it with the others.
	m = modelTree{}
	for i := range 3 {
		m.leaves = append(m.leaves, modelLeaf{0, i + 1, []api.Entry{at(fmt.Sprint("t", i), chars(1000, 'v'), i+1)}})
	}
	m = withLog(m, 0)
	for count := 112; count <= 180; count++ {
		d := m.on(t, count)
		s := modelStep{disk: d, tree: m}
		s.put(l, 66)
		n := 67
		if s.e != api.OK {
			n = 0
		}
		wantPut(t, d, l, 66, s.acts, n, s.e)
		if (count == 112 || count == 130) && s.e != api.ErrSpace || count == 180 && s.e != api.OK {
			t.Errorf("%d sectors: error %d", count, s.e)
		}
	}
	// A directory that is full: presses would come too late. One more file goes in yet.
	wantPut(t, withLog(many(8, 8, 8, 8), 0).on(t, 400), l, 0, nil, 0, api.ErrFull)
	wantPut(t, withLog(many(0, 0, 0, 32), 0).on(t, 400), l, 0, nil, 0, api.ErrFull)
	x := putting(t, withLog(many(0, 0, 0, 31), 0).on(t, 400), 0, l...)
	wantLevels(t, x, 1, 0, 0, 31)
	wantLevels(t, putting(t, withLog(many(8, 8, 8, 7), 0).on(t, 400), 0, l...), 0, 1, 0, 1)
	// A log that can't be emptied, and one whose salts are at an end: they come to one error, but with a record the log can be begun anew.
	wantPut(t, lastEpoch(t, withLog(many(0, 0, 0, 0), 1).on(t, 200)), changes(of("n", chars(200, 'n'))), 0, nil, 0, api.ErrSpace)
	wantPut(t, lastSalt(t, laid(t, 100, nil, nil)), l, 0, nil, 0, api.ErrSpace)
	x = lastSalt(t, laid(t, 100, nil, records(1)))
	s := modelStep{disk: x, tree: modelTree{records: []modelRecord{{1, changes(of("r", "1"))}}}}
	s.put(l, 0)
	wantPut(t, x, l, 0, s.acts, 2, api.OK)
	wantLevels(t, s.disk, 1, 0, 0, 0)
}

// lastSalt is a disk whose log has, behind its records, a sector with the greatest salt of all.
func lastSalt(t *testing.T, d api.Disk) api.Disk {
	t.Helper()
	return done(t, d, []api.Act{{Put: api.Put{Sector: 79, Data: []byte("\x01\x00\x00\x00\xff\xff\xff\xff" + chars(120, 0))}}, {Flush: true}}, api.OK)
}

// The first error of a put's acts, where several would come up: a press that takes too many goes ahead of a log without salts.
func TestPutErrorsInOrder(t *testing.T) {
	var l []api.Change
	for i := range 4 {
		l = append(l, of(modelName(1, i+1), tableOf(t, entries(api.MaxEntries, i+1)...)))
	}
	l = append(l, of("l2.7", tableOf(t, at("a", "", 9))))
	d := laid(t, api.MaxSectors, l, nil)
	wantPut(t, lastSalt(t, d), changes(of("n", "new")), 9, nil, 0, api.ErrMany)
	x := laid(t, api.MaxSectors, l[:4], nil)
	wantPut(t, lastSalt(t, x), changes(of("n", "new")), 3, nil, 0, api.ErrMany)
	wantPut(t, lastSalt(t, x), changes(of("n", "new")), 4, nil, 0, api.ErrSpace)
	wantPut(t, lastSalt(t, x), nil, 9, nil, 0, api.ErrNone)
	wantPut(t, lastSalt(t, x), changes(of("n", "new")), 9, nil, 0, api.ErrArg)
	if _, n, e := Put(d, changes(of("n", "new")), 9); n != 10 || e != api.OK {
		t.Errorf("Put = %d, %d", n, e)
	}
	// So many writes wait that a flush's can't be done: there is no disk behind them.
	y := withLog(many(0, 0, 0, 0), 0).on(t, 200)
	for len(y.Waits) < api.MaxSectors {
		y.Waits = append(y.Waits, api.Put{Sector: 199, Data: make([]byte, api.Sector)})
	}
	wantPut(t, y, changes(of("n", "new")), 0, nil, 0, api.ErrMany)
}

// Drawn trees: the acts of each call are those that the model tells, and the disk behind them is what it says.
func TestTurnsByModel(t *testing.T) {
	r := rand.New(rand.NewSource(125))
	count := map[api.Errno]int{}
	var lasts, allOut, flushes, presses int
	for round := range 500 {
		m, keys := drawTree(r)
		if r.Intn(2) == 0 {
			m = withLog(m, r.Intn(3)+max(0, len(m.records)))
			if len(m.records) == 0 || !m.is() {
				continue
			}
		}
		m = withBallast(r, m)
		if r.Intn(5) == 0 {
			m = raised(m, r.Intn(3))
		}
		d := m.on(t, max(96, 80+m.sectors(t)+r.Intn(20)))
		if r.Intn(3) == 0 {
			d = waiting(d)
		}
		n := m.number()
		s := modelStep{disk: d, tree: m}
		s.flush()
		wantFlush(t, d, s.acts, s.e)
		count[s.e]++
		flushes += len(s.acts)
		wantTree(t, s)
		for level := range 4 {
			if m.levels()[level] == 0 {
				continue
			}
			s := modelStep{disk: d, tree: m}
			keep := r.Intn(n + 1)
			s.press(level, keep)
			wantPress(t, d, level, keep, s.acts, s.e)
			count[s.e]++
			lasts, allOut = lasts+s.lasts, allOut+s.allOut
			wantTree(t, s)
		}
		l, keep := drawChanges(r, keys, 3, 400), r.Intn(n+1)
		s = modelStep{disk: d, tree: m}
		s.put(l, keep)
		next := n + 1
		if s.e != api.OK {
			next = 0
		}
		wantPut(t, d, l, keep, s.acts, next, s.e)
		count[s.e]++
		presses += s.presses
		wantTree(t, s)
		if t.Failed() {
			t.Fatalf("round %d: %+v", round, m)
		}
	}
	if count[api.OK] < 500 || count[api.ErrSpace] < 5 || count[api.ErrMany] < 20 || lasts < 100 || allOut < 10 || flushes < 500 || presses < 10 {
		t.Errorf("%v, %d times last, %d times all out, %d acts of flushes, %d presses: too few to tell", count, lasts, allOut, flushes, presses)
	}
}

// raised is a tree whose files have greater numbers, so that so many are left behind the greatest.
func raised(m modelTree, left int) modelTree {
	l := slices.Clone(m.leaves)
	for i := range l {
		l[i].number += end - left + 1 - m.nextFile()
	}
	return modelTree{l, m.records}
}

// Behind the greatest number of a file there is none for one more table. Whoever makes none needs none.
func TestNoNumberLeft(t *testing.T) {
	a1, b2 := at("a", "x", 1), at("b", "y", 2)
	for level := range 4 {
		last := of(modelName(level, end), tableOf(t, a1))
		// A flush: with something new; with nothing; with records alone that count for nothing.
		wantFlush(t, laid(t, 100, changes(last), records(2)), nil, api.ErrMany)
		wantFlush(t, laid(t, 100, changes(last), records(1, 2)), nil, api.ErrMany)
		wantFlush(t, laid(t, 100, changes(last), nil), nil, api.OK)
		d := laid(t, 100, changes(last), records(1))
		acts, x := cleared(t, d)
		wantFlush(t, d, acts, api.OK)
		wantOpen(t, x, 1, api.OK)
		// A press, of the table that has it, and of others: it is the greatest of all that counts, though it would go.
		for keep := range 2 {
			wantPress(t, d, level, keep, nil, api.ErrMany)
		}
		for other := range 4 {
			d := laid(t, 100, changes(last, of(modelName(other, 1), tableOf(t, b2))), nil)
			wantPress(t, d, other, 0, nil, api.ErrMany)
			wantPress(t, d, other, 2, nil, api.ErrMany)
			wantOpen(t, d, 2, api.OK)
		}
		// What Press asks first stays first.
		wantPress(t, d, (level+1)%4, 0, nil, api.ErrNone)
		wantPress(t, d, level, 2, nil, api.ErrArg)
		wantPress(t, d, 4, 0, nil, api.ErrArg)
	}
	// One below it, one more table comes: the last one.
	below := of(modelName(2, end-1), tableOf(t, a1))
	d := laid(t, 100, changes(below), records(2))
	first, x := turned(t, d, of("l0.2147483647", tableOf(t, at("r", "2", 2))))
	acts, x := cleared(t, x)
	wantFlush(t, d, slices.Concat(first, acts), api.OK)
	wantOpen(t, x, 2, api.OK)
	wantPress(t, x, 0, 0, nil, api.ErrMany)
	wantPress(t, x, 2, 0, nil, api.ErrMany)
	want, x := turned(t, d, away(below.Key), of("l3.2147483647", tableOf(t, a1)))
	wantPress(t, d, 2, 0, want, api.OK)
	wantOpen(t, x, 2, api.OK)
	wantFlush(t, x, nil, api.ErrMany)
	wantPress(t, x, 3, 0, nil, api.ErrMany)
}

// A press by which no entry is left makes no table.
func TestPressOfAllWithNoNumberLeft(t *testing.T) {
	d := laid(t, 100, changes(of(modelName(2, end), tableOf(t, goneAt("a", 1), goneAt("b", 2))), of("l3.2", tableOf(t, at("a", "", 0), at("b", "", 1))), of("l0.3", tableOf(t, at("c", "", 3)))), nil)
	want, x := turned(t, d, away(modelName(2, end)), away("l3.2"))
	for _, keep := range []int{2, 3} {
		wantPress(t, d, 2, keep, want, api.OK)
	}
	wantOpen(t, x, 3, api.OK)
	wantNames(t, x, "l0.3")
	wantPress(t, d, 2, 1, nil, api.ErrMany)
	// The greatest number went with it: the next one is behind the greatest that is left.
	want, _ = turned(t, x, away("l0.3"), of("l1.4", tableOf(t, at("c", "", 3))))
	wantPress(t, x, 0, 0, want, api.OK)
	// It may also stay elsewhere.
	d = laid(t, 100, changes(of("l3.2", tableOf(t, goneAt("a", 1))), of(modelName(0, end), tableOf(t, at("c", "", 3)))), nil)
	want, x = turned(t, d, away("l3.2"))
	wantPress(t, d, 3, 3, want, api.OK)
	wantOpen(t, x, 3, api.OK)
	wantPress(t, d, 3, 0, nil, api.ErrMany)
}

// Where the new table has no number, it is not asked whether it has room; and what goes ahead of the number stays ahead.
func TestNoNumberLeftAmongErrors(t *testing.T) {
	full := raised(many(8, 8, 8, 8), 0)
	full.records = []modelRecord{{33, changes(of("r", "33"))}}
	wantFlush(t, full.on(t, 300), nil, api.ErrMany)
	wantFlush(t, raised(full, 1).on(t, 300), nil, api.ErrFull)
	text := tableOf(t, at("a", chars(1000, 'v'), 1))
	wantPress(t, laid(t, 96, changes(of(modelName(0, end), text)), nil), 0, 0, nil, api.ErrMany)
	wantPress(t, laid(t, 96, changes(of(modelName(0, end-1), text)), nil), 0, 0, nil, api.ErrSpace)
	d := lastEpoch(t, laid(t, 100, changes(of(modelName(0, end), tableOf(t, at("a", "", 1)))), records(1, 2)))
	wantFlush(t, d, nil, api.ErrMany)
	d = lastEpoch(t, laid(t, 100, changes(of(modelName(0, end), tableOf(t, at("a", "", 1)))), records(1)))
	wantFlush(t, d, nil, api.ErrSpace)
}

// A put needs numbers only if the log has no room: one for the flush, and one for each press by which an entry is left.
func TestPutWithFewNumbersLeft(t *testing.T) {
	l := changes(of("n", "new"))
	for _, c := range []struct {
		levels []int
		needs  int
	}{
		{[]int{1, 0, 0, 0}, 1}, {[]int{0, 0, 0, 1}, 1}, {[]int{3, 0, 0, 0}, 2}, {[]int{3, 3, 3, 3}, 2}, {[]int{2, 4, 0, 0}, 2}, {[]int{3, 0, 4, 0}, 3}, {[]int{2, 4, 3, 0}, 2},
	} {
		for left := range c.needs + 2 {
			m := raised(withLog(many(c.levels...), 0), left)
			d, n := m.on(t, 400), m.number()
			s := modelStep{disk: d, tree: m}
			if s.put(l, n); s.e == api.OK != (left >= c.needs) {
				t.Fatalf("%v, %d numbers left: error %d", c.levels, left, s.e)
			}
			if left < c.needs {
				wantPut(t, d, l, n, nil, 0, api.ErrMany)
				continue
			}
			wantPut(t, d, l, n, s.acts, n+1, api.OK)
			wantTree(t, s)
		}
		// With room in the log there is none that a put needs.
		m := raised(withLog(many(c.levels...), 1), 0)
		d, n := m.on(t, 400), m.number()
		want, x := withRecord(t, d, n+1, l...)
		wantPut(t, d, l, 0, want, n+1, api.OK)
		wantOpen(t, x, n+1, api.OK)
	}
	// Puts, one behind the other, till the log is full: all of them stay.
	d := laid(t, 200, changes(of(modelName(0, end), tableOf(t, at("a", "x", 1)))), nil)
	for n := 2; ; n++ {
		acts, got, e := Put(d, changes(of("b", chars(1000, 'v'))), 0)
		if e != api.OK {
			if n < 8 || e != api.ErrMany || len(acts) != 0 || got != 0 {
				t.Errorf("put %d: %d acts, %d, error %d", n, len(acts), got, e)
			}
			break
		}
		d = done(t, d, acts, e)
		wantOpen(t, d, n, api.OK)
	}
	// What Put asks first stays first.
	d = raised(withLog(many(1, 0, 0, 0), 0), 0).on(t, 200)
	wantPut(t, d, nil, 0, nil, 0, api.ErrNone)
	wantPut(t, d, l, 99, nil, 0, api.ErrArg)
	wantPut(t, d, changes(of("", "")), 99, nil, 0, api.ErrKey)
}

// withBallast is a tree, some of them with an old entry that needs many sectors.
func withBallast(r *rand.Rand, m modelTree) modelTree {
	if len(m.leaves) == 0 || r.Intn(2) == 0 {
		return m
	}
	x := &m.leaves[r.Intn(len(m.leaves))]
	x.entries = append(x.entries, at("ballast", chars(1000+r.Intn(1000), 'v'), 0))
	return m
}

// wantTree asks that the disk behind a step is the tree that the model says.
func wantTree(t *testing.T, s modelStep) {
	t.Helper()
	if s.e != api.OK {
		return
	}
	n := s.tree.number()
	wantOpen(t, s.disk, n, api.OK)
	wantLevels(t, s.disk, s.tree.levels()...)
	wantRange(t, s.disk, "", "", n, s.tree.counts(n), api.OK)
	if e := disk.Check(s.disk); e != api.OK {
		t.Errorf("Check: error %d", e)
	}
}
