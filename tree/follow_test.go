package tree

import (
	"bytes"
	"fmt"
	"maps"
	"math/rand"
	"slices"
	"testing"

	"docket/api"
	"docket/disk"
)

// withRoom is a disk with spare room behind all its lists.
func withRoom(d api.Disk) api.Disk {
	x := api.Disk{Count: d.Count, Data: append(bytes.Clone(d.Data), "spare"...)[:len(d.Data)]}
	for _, w := range d.Waits {
		x.Waits = append(x.Waits, api.Put{Sector: w.Sector, Data: append(bytes.Clone(w.Data), "spare"...)[:len(w.Data)]})
	}
	x.Waits = append(x.Waits, api.Put{Sector: 7, Data: []byte("spare")})[:len(d.Waits)]
	return x
}

// whole is all bytes of a disk's lists, their spare room too.
func whole(d api.Disk) string {
	s := fmt.Sprint(d.Count, len(d.Data), len(d.Waits), string(d.Data[:cap(d.Data)]))
	for _, w := range d.Waits[:cap(d.Waits)] {
		s += fmt.Sprint(" ", w.Sector, len(w.Data), string(w.Data[:cap(w.Data)]))
	}
	return s
}

// some are trees, and a disk that is none, with writes that wait and without.
func some(t *testing.T) []api.Disk {
	t.Helper()
	l := []api.Disk{formatted(t, 96), looked().on(t, 200), stacked().on(t, 200), withLog(many(3, 4, 0, 1), 0).on(t, 300), withLog(stacked(), 2).on(t, 130), laid(t, 100, changes(of("x", "no table")), nil)}
	for _, d := range slices.Clone(l) {
		l = append(l, waiting(d))
	}
	return l
}

func TestOnlyRead(t *testing.T) {
	for _, d := range some(t) {
		arg := withRoom(d)
		before := whole(arg)
		l := append(changes(of("b", "x"), away("a"), of("c", chars(300, 'v'))), of("spare", "room"))
		n, _ := Open(arg)
		Put(arg, l[:3], 0)
		Put(arg, l[:3], n)
		Put(arg, append(l, of("", ""))[:5], n)
		Write(l[:3], 7)
		for _, seq := range []int{-1, 0, n, n + 1} {
			Get(arg, "a", seq)
			Range(arg, "", "", seq)
			Range(arg, "a", "b", seq)
			for level := -1; level <= 4; level++ {
				Press(arg, level, seq)
			}
		}
		Flush(arg)
		Levels(arg)
		if whole(arg) != before {
			t.Errorf("a disk of %d sectors, or what is behind it, became another one", d.Count)
		}
		if !slices.Equal(l, changes(of("b", "x"), away("a"), of("c", chars(300, 'v')), of("spare", "room"))) {
			t.Errorf("changes became %s", short(l))
		}
	}
}

// spoil writes over all bytes of a disk.
func spoil(d api.Disk) {
	for i := range d.Data[:cap(d.Data)] {
		d.Data[:cap(d.Data)][i] ^= 255
	}
	for _, w := range d.Waits {
		for i := range w.Data[:cap(w.Data)] {
			w.Data[:cap(w.Data)][i] ^= 255
		}
	}
}

// copied are acts with bytes of their own.
func copied(l []api.Act) []api.Act {
	var out []api.Act
	for _, a := range l {
		out = append(out, api.Act{Flush: a.Flush, Put: api.Put{Sector: a.Put.Sector, Data: bytes.Clone(a.Put.Data)}})
	}
	return out
}

// wantNewActs asks that no act shares its bytes with another one, with those of a second answer, or with the disk.
func wantNewActs(t *testing.T, name string, d api.Disk, answer func(d api.Disk) []api.Act) {
	t.Helper()
	arg := withRoom(d)
	before := whole(arg)
	one, two := answer(arg), answer(arg)
	want := copied(one)
	for i, a := range one {
		b := a.Put.Data[:cap(a.Put.Data)]
		for k := range b {
			b[k] ^= 255
		}
		for k := range one {
			if k > i && !bytes.Equal(one[k].Put.Data, want[k].Put.Data) {
				t.Fatalf("%s: the acts %d and %d share memory", name, i, k)
			}
		}
	}
	clear(one[:cap(one)])
	if !sameActs(two, want) || whole(arg) != before {
		t.Errorf("%s: two answers share memory, or one with the disk", name)
	}
	spoil(arg)
	if !sameActs(two, want) {
		t.Errorf("%s: an answer became another one with the disk", name)
	}
}

func TestAnswersAreNewMemory(t *testing.T) {
	for _, d := range some(t) {
		n, e := Open(d)
		if e != api.OK {
			continue
		}
		wantNewActs(t, "Flush", d, func(d api.Disk) []api.Act {
			l, _ := Flush(d)
			return l
		})
		wantNewActs(t, "Put", d, func(d api.Disk) []api.Act {
			l, _, _ := Put(d, changes(of("b", chars(300, 'v')), away("a")), n)
			return l
		})
		for level := range 4 {
			wantNewActs(t, "Press", d, func(d api.Disk) []api.Act {
				l, _ := Press(d, level, n)
				return l
			})
		}
		wantNewLooks(t, d, n)
	}
	d, x := formatted(t, 96), formatted(t, 96)
	spoil(d)
	if y := formatted(t, 96); !disk.Same(x, y) {
		t.Error("two disks that Format made share memory")
	}
	l := changes(of("b", "x"), away("a"))
	record, _ := Write(l, 3)
	one, _, _ := Read(record)
	two, _, _ := Read(record)
	clear(l)
	clear(one[:cap(one)])
	if !slices.Equal(two, changes(of("b", "x"), away("a"))) || record != (modelRecord{3, two}).text() {
		t.Errorf("what Read answered became %s", short(two))
	}
}

func wantNewLooks(t *testing.T, d api.Disk, n int) {
	t.Helper()
	arg := withRoom(d)
	want, _ := Range(d, "", "", n)
	levels, _ := Levels(d)
	one, _ := Range(arg, "", "", n)
	two, _ := Range(arg, "", "", n)
	many, _ := Levels(arg)
	clear(one[:cap(one)])
	clear(many)
	again, _ := Levels(arg)
	spoil(arg)
	if !slices.Equal(two, want) || !slices.Equal(again, levels) {
		t.Errorf("what Range or Levels answered became %s, %v", short(two), again)
	}
}

// day is a tree, and what was put: what counts at each number, from 0 on. What is below floor may be forgotten.
type day struct {
	disk  api.Disk
	told  [][]api.Change
	floor int
}

func newDay(t *testing.T, count int) day {
	t.Helper()
	return day{disk: formatted(t, count), told: [][]api.Change{nil}}
}

func (d day) number() int { return len(d.told) - 1 }

// step is what is about to be done to a day's tree: acts, what counts at one more number, if there is one, and from which number on nothing else changes.
type step struct {
	name  string
	acts  []api.Act
	next  [][]api.Change
	floor int
}

// after is what counts when changes were put.
func after(l []api.Change, more []api.Change) []api.Change {
	now := map[string]string{}
	for _, c := range l {
		now[c.Key] = c.Value
	}
	for _, c := range more {
		if c.Gone {
			delete(now, c.Key)
		} else {
			now[c.Key] = c.Value
		}
	}
	var out []api.Change
	for _, key := range slices.Sorted(maps.Keys(now)) {
		out = append(out, of(key, now[key]))
	}
	return out
}

// drawStep draws a put, a flush or a press; false, if the tree refuses it.
func (d day) drawStep(t *testing.T, r *rand.Rand, keys []string) (step, bool) {
	t.Helper()
	n := d.number()
	keep := max(d.floor, n-r.Intn(4))
	switch k := r.Intn(40); {
	case k < 36:
		l := drawChanges(r, keys, 4, []int{3, 30, 900}[r.Intn(3)])
		acts, next, e := Put(d.disk, l, keep)
		if e == api.OK && next != n+1 {
			t.Fatalf("Put at %d answered the number %d", n, next)
		}
		// Where no press is among the acts nothing is forgotten, but it may be.
		return step{"put", acts, [][]api.Change{after(d.told[n], l)}, keep}, e == api.OK
	case k < 37:
		acts, e := Flush(d.disk)
		return step{"flush", acts, nil, d.floor}, e == api.OK
	default:
		acts, e := Press(d.disk, r.Intn(4), keep)
		return step{"press", acts, nil, keep}, e == api.OK
	}
}

// is asks that a disk is the day's tree, of one of two numbers, and that all counts from a number on that was told; it answers which number it has.
func (d day) is(t *testing.T, what string, x api.Disk, s step, ahead, behind bool) int {
	t.Helper()
	told := slices.Concat(d.told, s.next)
	n, e := Open(x)
	if e != api.OK || !(ahead && n == d.number() || behind && n == len(told)-1) {
		t.Fatalf("%s: Open = %d, %d, at the number %d", what, n, e, d.number())
	}
	for seq := s.floor; seq <= n; seq++ {
		if l, e := Range(x, "", "", seq); e != api.OK || !slices.Equal(l, told[seq]) {
			t.Fatalf("%s: Range at %d of %d = %s, %d, want %s", what, seq, n, short(l), e, short(told[seq]))
		}
	}
	return n
}

// breakOff loses the power behind each of a step's acts, with some choices of what stays, and tells how often the tree was that of before and that of behind.
func (d day) breakOff(t *testing.T, r *rand.Rand, s step, choices int) (old, now int) {
	t.Helper()
	for n := range len(s.acts) + 1 {
		x, e := disk.Do(d.disk, s.acts[:n])
		if e != api.OK {
			t.Fatalf("%s: Do: error %d", s.name, e)
		}
		for i := range min(choices, 1<<len(x.Waits)) {
			keep := make([]bool, len(x.Waits))
			for k := range keep {
				keep[k] = i == 1 || i > 1 && r.Intn(2) == 0
			}
			y, _ := disk.Crash(x, keep)
			what := fmt.Sprintf("%s, broken off behind %d of %d acts, %v stays", s.name, n, len(s.acts), keep)
			if d.is(t, what, y, s, n < len(s.acts), true) == d.number() {
				old++
			} else {
				now++
			}
		}
	}
	return old, now
}

// done is the day behind all acts of a step.
func (d day) done(t *testing.T, s step) day {
	t.Helper()
	x, e := disk.Do(d.disk, s.acts)
	if e != api.OK {
		t.Fatalf("%s: Do: error %d", s.name, e)
	}
	d.is(t, s.name, x, s, false, true)
	return day{x, slices.Concat(d.told, s.next), s.floor}
}

// lost is the day behind a loss of power somewhere in a step.
func (d day) lost(t *testing.T, r *rand.Rand, s step) day {
	t.Helper()
	x, _ := disk.Do(d.disk, s.acts[:r.Intn(len(s.acts)+1)])
	keep := make([]bool, r.Intn(len(x.Waits)+1))
	for k := range keep {
		keep[k] = r.Intn(3) > 0
	}
	x, _ = disk.Crash(x, keep)
	n := d.is(t, s.name+" that was lost", x, s, true, true)
	return day{x, slices.Concat(d.told, s.next)[:n+1], s.floor}
}

// Drawn days of puts, flushes and presses, with losses of power on the way: what counts is just what was put.
func TestDays(t *testing.T) {
	r := rand.New(rand.NewSource(126))
	steps, lost, refused := map[string]int{}, 0, 0
	for round := range 12 {
		keys := drawKeys(r, 4+r.Intn(12))
		d := newDay(t, 100+r.Intn(150))
		for range 150 {
			s, ok := d.drawStep(t, r, keys)
			if !ok {
				refused++
				continue
			}
			steps[s.name]++
			if s.name == "put" && len(s.acts) > 20 {
				steps["flush of a put"]++
			}
			if r.Intn(4) == 0 {
				d = d.lost(t, r, s)
				lost++
			} else {
				d = d.done(t, s)
			}
		}
		if t.Failed() {
			t.Fatalf("round %d", round)
		}
	}
	if steps["put"] < 800 || steps["flush"] < 20 || steps["press"] < 20 || steps["flush of a put"] < 30 || lost < 200 || refused < 10 {
		t.Errorf("%v, %d losses, %d refused: too few to tell", steps, lost, refused)
	}
}

// On drawn days each step is broken off behind each of its acts.
func TestLossOfPower(t *testing.T) {
	r := rand.New(rand.NewSource(127))
	count := map[string]int{}
	for range 8 {
		keys := drawKeys(r, 6)
		d := newDay(t, 130+r.Intn(70))
		for range 40 {
			s, ok := d.drawStep(t, r, keys)
			if !ok {
				continue
			}
			name := s.name
			if name == "put" && len(s.acts) > 20 {
				name = "flush of a put"
			}
			if name != "put" || r.Intn(4) == 0 {
				old, now := d.breakOff(t, r, s, 3)
				count[name+", before"] += old
				count[name+", behind"] += now
			}
			d = d.done(t, s)
		}
	}
	for _, name := range []string{"put, before", "put, behind", "flush, before", "press, before", "flush of a put, before", "flush of a put, behind"} {
		if count[name] < 10 {
			t.Errorf("%v: too few to tell of %s", count, name)
		}
	}
}

// dayOf is a day that begins with a tree of the model.
func dayOf(t *testing.T, m modelTree, count int) day {
	t.Helper()
	d := day{disk: m.on(t, count)}
	for seq := range m.number() + 1 {
		d.told = append(d.told, m.counts(seq))
	}
	return d
}

// A put with all that it can have: a flush, presses, the record; broken off behind each act, with many choices.
func TestLossOfPowerInAGreatPut(t *testing.T) {
	r := rand.New(rand.NewSource(128))
	d := dayOf(t, withLog(many(3, 3, 4, 1), 0), 200)
	n := d.number()
	l := changes(of("new", chars(200, 'n')), away("k1"))
	acts, next, e := Put(d.disk, l, n-1)
	if e != api.OK || next != n+1 {
		t.Fatalf("Put = %d, %d", next, e)
	}
	s := step{"put", acts, [][]api.Change{after(d.told[n], l)}, n - 1}
	old, now := d.breakOff(t, r, s, 12)
	if len(acts) < 40 || old < 200 || now < 2 {
		t.Errorf("%d acts, %d losses before, %d behind: too few to tell", len(acts), old, now)
	}
	wantLevels(t, d.done(t, s).disk, 0, 1, 0, 1)
}

// Small steps, with each choice of what stays behind each act.
func TestLossOfPowerEachChoice(t *testing.T) {
	r := rand.New(rand.NewSource(129))
	d := newDay(t, 100)
	take := func(name string, acts []api.Act, e api.Errno, floor int, next ...[]api.Change) {
		t.Helper()
		if e != api.OK {
			t.Fatalf("%s: error %d", name, e)
		}
		s := step{name, acts, next, floor}
		for n := range len(acts) + 1 {
			x, _ := disk.Do(d.disk, acts[:n])
			for mask := range 1 << len(x.Waits) {
				keep := make([]bool, len(x.Waits))
				for k := range keep {
					keep[k] = mask>>k&1 == 1
				}
				y, _ := disk.Crash(x, keep)
				d.is(t, fmt.Sprintf("%s, %d acts, choice %d", name, n, mask), y, s, n < len(acts), true)
			}
		}
		d = d.done(t, s)
	}
	put := func(l ...api.Change) {
		t.Helper()
		acts, _, e := Put(d.disk, l, d.number())
		take("put", acts, e, d.number(), after(d.told[d.number()], l))
	}
	put(of("a", "x"), of("b", chars(500, 'v')))
	put(away("a"), of("c", chars(300, 'v')))
	acts, e := Flush(d.disk)
	take("flush", acts, e, 0)
	put(of("a", "y"), away("b"))
	acts, e = Press(d.disk, 0, d.number()-1)
	take("press", acts, e, d.number()-1)
	acts, e = Flush(d.disk)
	take("flush", acts, e, d.floor)
	acts, e = Press(d.disk, 0, d.number())
	take("press", acts, e, d.number())
	for range 3 {
		put(drawChanges(r, []string{"a", "b", "c", "d"}, 3, 50)...)
	}
	wantLevels(t, d.disk, 0, 1, 0, 0)
}

// A loss of power again and again in like steps: what is left of one never fits the next one.
func TestLossAgainAndAgain(t *testing.T) {
	r := rand.New(rand.NewSource(130))
	keys := drawKeys(r, 5)
	d := newDay(t, 120)
	for range 250 {
		s, ok := d.drawStep(t, r, keys)
		if ok {
			d = d.lost(t, r, s)
		}
	}
	if d.number() < 30 {
		t.Errorf("the number %d: too small to tell", d.number())
	}
}

// Flushes change nothing that counts at any number; presses nothing from keep on; neither the tree's number.
func TestTurnsChangeNothingThatCounts(t *testing.T) {
	r := rand.New(rand.NewSource(131))
	for round := range 120 {
		m, _ := drawTree(r)
		d := m.on(t, 200)
		n := m.number()
		x := flushed(t, d)
		wantOpen(t, x, n, api.OK)
		for seq := range n + 1 {
			wantRange(t, x, "", "", seq, m.counts(seq), api.OK)
		}
		for level, many := range m.levels() {
			if many == 0 {
				continue
			}
			keep := r.Intn(n + 1)
			x := pressed(t, d, level, keep)
			wantOpen(t, x, n, api.OK)
			for seq := keep; seq <= n; seq++ {
				wantRange(t, x, "", "", seq, m.counts(seq), api.OK)
			}
		}
		if t.Failed() {
			t.Fatalf("round %d: %+v", round, m)
		}
	}
}
