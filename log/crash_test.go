package log

import (
	"fmt"
	"math/rand"
	"slices"
	"strings"
	"testing"

	"docket/api"
	"docket/disk"
)

// step is what is done to a disk: acts, and how many records there are at least from then on, whatever is lost.
type step struct {
	acts []api.Act
	sure int
}

// addAll are the steps of adding records one behind the other, with a flush behind those that flush names; full are all records then.
func addAll(t *testing.T, d api.Disk, l []string, flush func(i int) bool) (steps []step, full []string) {
	t.Helper()
	full, e := Records(d)
	if e != api.OK {
		t.Fatal(e)
	}
	sure := len(full)
	for i, s := range l {
		acts, e := Add(d, s)
		if e == api.ErrSpace {
			break
		}
		if e != api.OK {
			t.Fatalf("adding %d: error %d", i, e)
		}
		full = append(full, s)
		for _, a := range acts {
			steps = append(steps, step{[]api.Act{a}, sure})
		}
		if flush(i) {
			sure = len(full)
			acts = append(acts, api.Act{Flush: true})
			steps = append(steps, step{[]api.Act{{Flush: true}}, sure})
		}
		if d, e = disk.Do(d, acts); e != api.OK {
			t.Fatalf("adding %d: its acts: error %d", i, e)
		}
	}
	return steps, full
}

// isFirst asks that the records are some first ones of full, so many at least; it answers how many.
func isFirst(t *testing.T, what any, d api.Disk, full []string, least int) int {
	t.Helper()
	l, e := Records(d)
	if e != api.OK || len(l) < least || len(l) > len(full) || !slices.Equal(l, full[:len(l)]) {
		t.Fatalf("%v: %d records %.200q, error %d; want some first ones of %d %.200q, %d at least", what, len(l), l, e, len(full), full, least)
	}
	return len(l)
}

func never(int) bool { return false }

// TestLossEachChoice: few sectors, but each choice of what stays, ahead of each act, behind torn ends of several kinds.
func TestLossEachChoice(t *testing.T) {
	r := rand.New(rand.NewSource(54))
	long := strings.Repeat("l", 113)
	for _, l := range [][]string{
		{"a"}, {"a", "b", "c", "d"}, {long, long}, {"", "", ""}, {strings.Repeat("x", 300), "b"}, {"a", strings.Repeat("x", 224), "b", long},
	} {
		for at := range 6 {
			d := drawDisk(r, drawSmall)
			if at == 0 {
				clear(d.Data[128*17:])
			}
			steps, full := addAll(t, d, l, never)
			x := d
			for i := 0; ; i++ {
				for mask := range 1 << len(x.Waits) {
					keep := make([]bool, len(x.Waits))
					for k := range keep {
						keep[k] = mask>>k&1 == 1
					}
					y, _ := disk.Crash(x, keep)
					isFirst(t, fmt.Sprint(len(l), " ", at, " ", i, " ", mask), y, full, len(full)-len(l))
				}
				if i == len(steps) {
					break
				}
				x, _ = disk.Do(x, steps[i].acts)
			}
		}
	}
}

// TestLossOfPower: on drawn disks, ahead of each act of adding drawn records, also with flushes between, with drawn choices of what stays.
func TestLossOfPower(t *testing.T) {
	r := rand.New(rand.NewSource(55))
	none, some, all := 0, 0, 0
	for round := range 150 {
		d := drawDisk(r, drawSmall)
		before, _ := Records(d)
		var l []string
		for range 1 + r.Intn(5) {
			l = append(l, drawRecord(r, 600))
		}
		odds := r.Intn(4)
		steps, full := addAll(t, d, l, func(int) bool { return r.Intn(4) < odds })
		x, sure := d, len(before)
		for i := 0; ; i++ {
			for range 6 {
				y, _ := disk.Crash(x, drawKeep(r, len(x.Waits)))
				switch n := isFirst(t, fmt.Sprint(round, " ", i), y, full, sure); n {
				case len(before):
					none++
				case len(full):
					all++
				default:
					some++
				}
			}
			if i == len(steps) {
				break
			}
			x, _ = disk.Do(x, steps[i].acts)
			sure = steps[i].sure
		}
	}
	if none < 100 || some < 100 || all < 100 {
		t.Error("too few of a kind:", none, some, all)
	}
}

// TestLossAgainAndAgain: records are added behind a loss, behind which there is another one, and so on, with a Clear between now and then; nothing of a lost record comes back.
func TestLossAgainAndAgain(t *testing.T) {
	r := rand.New(rand.NewSource(56))
	for round := range 120 {
		d := drawDisk(r, drawSmall)
		var have []string
		have, _ = Records(d)
		for again := range 14 {
			if m := modelRead(d); m.at > 40 || r.Intn(12) == 0 {
				a, e := Clear(d)
				if e != api.OK {
					t.Fatal(e)
				}
				d, _ = disk.Do(d, a)
				have = nil
			}
			var l []string
			for i := range 1 + r.Intn(4) {
				l = append(l, fmt.Sprint(round, " ", again, " ", i, " ")+drawRecord(r, 400))
			}
			steps, full := addAll(t, d, l, func(int) bool { return r.Intn(4) == 0 })
			sure := len(have)
			for _, s := range steps[:r.Intn(len(steps)+1)] {
				d, _ = disk.Do(d, s.acts)
				sure = s.sure
			}
			d, _ = disk.Crash(d, drawKeep(r, len(d.Waits)))
			have = full[:isFirst(t, fmt.Sprint(round, " ", again), d, full, sure)]
		}
	}
}

// TestSameRecordsAgain: the same records of the same sizes added anew behind a loss, whose sectors would fit if it were not for their salts.
func TestSameRecordsAgain(t *testing.T) {
	r := rand.New(rand.NewSource(57))
	first, second := strings.Repeat("1", 112)+"2", strings.Repeat("3", 112)+"4"
	for round := range 300 {
		d := emptied(t, 80)
		var have []string
		for again := range 6 {
			l := []string{first, second, "5", "5", second}
			if r.Intn(2) == 0 {
				l = []string{second, first, "6", first}
			}
			steps, full := addAll(t, d, l, never)
			for _, s := range steps {
				d, _ = disk.Do(d, s.acts)
			}
			d, _ = disk.Crash(d, drawKeep(r, len(d.Waits)))
			have = full[:isFirst(t, fmt.Sprint(round, " ", again), d, full, len(have))]
		}
	}
}

// TestLaterRecordStays: of three records the middle one is lost; the last one stands there whole, but is none of the log, also when the gap is filled anew.
func TestLaterRecordStays(t *testing.T) {
	for _, mid := range []string{"m", strings.Repeat("m", 113)} {
		d := emptied(t, 80)
		steps, _ := addAll(t, d, []string{"a", mid, "late"}, never)
		for _, s := range steps {
			d, _ = disk.Do(d, s.acts)
		}
		keep := make([]bool, len(steps))
		keep[0], keep[len(keep)-1] = true, true
		d, _ = disk.Crash(d, keep)
		hasRecords(t, "behind the loss", d, "a")
		acts, _ := Add(d, mid)
		if salt := little.Uint32(acts[0].Put.Data[4:]); salt != 2 {
			t.Errorf("salt %d", salt)
		}
		y, _ := disk.Do(d, acts)
		hasRecords(t, "the gap filled", y, "a", mid)
		z := added(t, y, "new")
		hasRecords(t, "and one behind it", z, "a", mid, "new")
	}
}

// TestClearBrokenOff: the records of before, or none; and none comes back by what is added then.
func TestClearBrokenOff(t *testing.T) {
	r := rand.New(rand.NewSource(58))
	old, gone := 0, 0
	for round := range 300 {
		d := drawDisk(r, drawSmall)
		steps, full := addAll(t, d, []string{drawRecord(r, 300), drawRecord(r, 200)}, never)
		sure := len(full) - 2
		if r.Intn(2) == 0 {
			for _, s := range steps {
				d, _ = disk.Do(d, s.acts)
			}
		} else {
			full = full[:sure]
		}
		acts, e := Clear(d)
		if e != api.OK || len(acts) != 2 {
			t.Fatalf("round %d: %d acts, error %d", round, len(acts), e)
		}
		x := d
		for i := 0; ; i++ {
			for range 5 {
				y, _ := disk.Crash(x, drawKeep(r, len(x.Waits)))
				l, e := Records(y)
				switch {
				case e == api.OK && len(l) == 0:
					gone++
				case i < 2:
					isFirst(t, round, y, full, sure)
					old++
				default:
					t.Fatalf("round %d: behind Clear %q, error %d", round, l, e)
				}
				z, _ := disk.Flush(added(t, y, "new"))
				hasRecords(t, round, z, append(slices.Clone(l), "new")...)
			}
			if i == len(acts) {
				break
			}
			x, _ = disk.Do(x, acts[i:i+1])
		}
	}
	if old < 100 || gone < 100 {
		t.Error("too few of a kind:", old, gone)
	}
}
