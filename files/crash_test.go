package files

import (
	"encoding/binary"
	"fmt"
	"maps"
	"math/rand"
	"testing"

	"docket/api"
	"docket/disk"
)

// TestTurnByModel: on drawn disks, also such whose writes wait, Turn answers what the model does, and its acts can be done.
func TestTurnByModel(t *testing.T) {
	r := rand.New(rand.NewSource(41))
	count := map[api.Errno]int{}
	for round := range 3000 {
		d := drawDisk(r)
		have, _ := modelHouse(d)
		if r.Intn(3) == 0 {
			a, _ := modelTurn(d, drawChanges(r, keys(have), 300))
			d, _ = disk.Do(d, a[:r.Intn(len(a)+1)])
			have, _ = modelHouse(d)
		}
		l := drawChanges(r, keys(have), 1+r.Intn(2000))
		want, e := modelTurn(d, l)
		got, f := Turn(d, l)
		count[f]++
		if e != f || !isActs(t, round, got, want) {
			t.Fatalf("round %d: error %d, want %d", round, f, e)
		}
		if f != api.OK {
			continue
		}
		x, g := disk.Do(d, got)
		if g != api.OK || !isHouse(t, round, x, behind(have, l)) {
			t.Fatalf("round %d: error %d", round, g)
		}
	}
	for _, e := range []api.Errno{api.OK, api.ErrName, api.ErrNone, api.ErrBad, api.ErrSpace} {
		if count[e] == 0 {
			t.Errorf("no round had the error %d", e)
		}
	}
}

// TestReadsByModel: Mount, Names, Room and Get of drawn disks.
func TestReadsByModel(t *testing.T) {
	r := rand.New(rand.NewSource(42))
	for round := range 1000 {
		d := drawDisk(r)
		want, _, ok := modelMount(d)
		got, e := Mount(d)
		if !ok || e != api.OK || !sameDir(got, want) {
			t.Fatalf("round %d: %v, error %d, want %v", round, got, e, want)
		}
		house, _ := modelHouse(d)
		isHouse(t, round, d, house)
		many := d.Count - 80
		for _, f := range want.Files {
			for _, p := range f.Pieces {
				many -= p.Count
			}
		}
		if n, e := Room(d); n != many || e != api.OK {
			t.Fatalf("round %d: Room %d, error %d, want %d", round, n, e, many)
		}
	}
}

// TestLossOfPower: ahead of each act, with drawn choices of what stays of the writes that wait.
func TestLossOfPower(t *testing.T) {
	r := rand.New(rand.NewSource(43))
	old, now := 0, 0
	for round := range 250 {
		d := drawDisk(r)
		before, _ := modelHouse(d)
		l := drawChanges(r, keys(before), 1+r.Intn(900))
		acts, e := Turn(d, l)
		if e != api.OK {
			continue
		}
		after := behind(before, l)
		for n := range len(acts) + 1 {
			x, _ := disk.Do(d, acts[:n])
			for i := range 12 {
				keep := drawKeep(r, len(x.Waits))
				y, _ := disk.Crash(x, keep)
				got, e := houseOf(y)
				was, is := maps.Equal(got, before), maps.Equal(got, after)
				if e != api.OK || !was && !is || n == len(acts) && !is {
					t.Fatalf("round %d, %d acts, %d: error %d, files %v, neither %v nor %v", round, n, i, e, keys(got), keys(before), keys(after))
				}
				if was {
					old++
				} else {
					now++
				}
			}
		}
	}
	if old < 1000 || now < 100 {
		t.Errorf("%d losses kept the old files, %d the new ones: too few to tell", old, now)
	}
}

// TestLossOfPowerEachChoice: one turn, each choice of what stays of the writes that wait.
func TestLossOfPowerEachChoice(t *testing.T) {
	d := done(t, formatted(t, 100), put("a", "old"), put("gone", "g"))
	d = done(t, d, put("b", "other"))
	before := map[string]string{"a": "old", "b": "other", "gone": "g"}
	l := []api.Change{put("a", "new"), gone("gone"), put("c", "")}
	after := map[string]string{"a": "new", "b": "other", "c": ""}
	acts, _ := Turn(d, l)
	for n := range len(acts) + 1 {
		x, _ := disk.Do(d, acts[:n])
		for mask := range 1 << len(x.Waits) {
			var keep []bool
			for i := range x.Waits {
				keep = append(keep, mask>>i&1 == 1)
			}
			y, _ := disk.Crash(x, keep)
			got, e := houseOf(y)
			// The new ones are there if all of the new directory is: its last sector is the last act but one.
			want := before
			if n == len(acts) || n == len(acts)-1 && mask == 1<<len(x.Waits)-1 {
				want = after
			}
			if e != api.OK || !maps.Equal(got, want) {
				t.Fatalf("%d acts, choice %d: error %d, %v, want %v", n, mask, e, got, want)
			}
		}
	}
}

// TestLossAgainAndAgain: turns that are broken off at like places leave sectors in the other slot that no later turn may fit.
func TestLossAgainAndAgain(t *testing.T) {
	d := done(t, formatted(t, 100), put("a", "first"))
	for round := range 200 {
		before, _ := houseOf(d)
		l := []api.Change{put("a", fmt.Sprint("round ", round)), put("b", fmt.Sprint(round))}
		acts, e := Turn(d, l)
		if e != api.OK {
			t.Fatalf("round %d: error %d", round, e)
		}
		x, _ := disk.Do(d, acts[:len(acts)-1])
		keep := make([]bool, len(x.Waits))
		for i := range keep {
			keep[i] = round>>(i%6)&1 == i/4
		}
		d, _ = disk.Crash(x, keep)
		got, e := houseOf(d)
		if e != api.OK || !maps.Equal(got, before) && !maps.Equal(got, behind(before, l)) {
			t.Fatalf("round %d: error %d, %v", round, e, got)
		}
	}
}

// TestLossOfPowerByTheEnd: like turns, where the other slot's numbers are about 2^62.
func TestLossOfPowerByTheEnd(t *testing.T) {
	r := rand.New(rand.NewSource(44))
	for round := range 60 {
		d := done(t, formatted(t, 100), put("a", "old"))
		for i := range 8 {
			binary.LittleEndian.PutUint64(d.Data[128*i:], modelEnd-2+uint64(r.Intn(3))*uint64(r.Intn(2)))
		}
		before, _ := modelHouse(d)
		l := []api.Change{put("a", "new"), put("b", "b")}
		want, e := modelTurn(d, l)
		acts, f := Turn(d, l)
		if e != f || !isActs(t, round, acts, want) {
			t.Fatalf("round %d: error %d, want %d", round, f, e)
		}
		if f != api.OK {
			continue
		}
		for n := range len(acts) + 1 {
			x, _ := disk.Do(d, acts[:n])
			y, _ := disk.Crash(x, drawKeep(r, len(x.Waits)))
			got, e := houseOf(y)
			if e != api.OK || !maps.Equal(got, before) && !maps.Equal(got, behind(before, l)) {
				t.Fatalf("round %d, %d acts: error %d, %v", round, n, e, got)
			}
		}
	}
}
