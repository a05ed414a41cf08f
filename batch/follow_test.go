package batch

import (
	"bytes"
	"fmt"
	"math/rand"
	"slices"
	"testing"

	"docket/api"
	"docket/disk"
	"docket/tree"
)

// withRoom is a disk with spare room behind all its lists.
func withRoom(d api.Disk) api.Disk {
	x := api.Disk{Count: d.Count, Data: append(bytes.Clone(d.Data), "spare"...)[:len(d.Data)]}
	for _, w := range d.Waits {
		x.Waits = append(x.Waits, api.Put{Sector: w.Sector, Data: append(bytes.Clone(w.Data), "spare"...)[:len(w.Data)]})
	}
	x.Waits = append(x.Waits, api.Put{Sector: 7, Data: []byte("spare")})[:len(d.Waits)]
	return x
}

// whole is all bytes of a disk's lists, their spare room too.
func whole(d api.Disk) string {
	s := fmt.Sprint(d.Count, len(d.Data), len(d.Waits), string(d.Data[:cap(d.Data)]))
	for _, w := range d.Waits[:cap(d.Waits)] {
		s += fmt.Sprint(" ", w.Sector, len(w.Data), string(w.Data[:cap(w.Data)]))
	}
	return s
}

// spoil writes over all of a disk, its spare room too.
func spoil(d api.Disk) {
	turn(d.Data)
	for i, w := range d.Waits[:cap(d.Waits)] {
		turn(w.Data)
		d.Waits[:cap(d.Waits)][i].Sector ^= 1
	}
}

func turn(b []byte) {
	b = b[:cap(b)]
	for i := range b {
		b[i] ^= 255
	}
}

// some are trees, with writes that wait and without.
func some(t *testing.T) []api.Disk {
	t.Helper()
	s, _ := aheadOfPress(t)
	l := []api.Disk{formatted(t, 96), putting(t, formatted(t, 120), keyed(20)...), withTables(t), diskOf(t, s)}
	for _, d := range slices.Clone(l) {
		l = append(l, waiting(d))
	}
	return l
}

func TestOnlyRead(t *testing.T) {
	for _, d := range some(t) {
		arg := withRoom(d)
		before := whole(arg)
		s := storeOf(t, arg)
		l := append(changes(of("b", "x"), away("a"), of("c", chars(300, 'v'))), of("spare", "room"))
		wantLook(t, s, 1, api.OK)
		for _, look := range []int{0, 1, 2} {
			s.Acts(look, l[:3])
			s.Put(look, l[:3])
			s.Put(look, l[:4])
			s.Put(look, append(l, of("", ""))[:5])
			s.Get(look, "a")
			s.Range(look, "a", "b")
			s.Drop(look)
		}
		for range 5 {
			s.Put(0, pressing())
		}
		s.Disk()
		if whole(arg) != before {
			t.Errorf("a disk of %d sectors, or what is behind it, became another one", d.Count)
		}
		if !slices.Equal(l, changes(of("b", "x"), away("a"), of("c", chars(300, 'v')), of("spare", "room"))) {
			t.Errorf("changes became %s", short(l))
		}
	}
}

// What a store was given and what it answered is written over: it tells what it told.
func TestStoresKeepMemoryOfTheirOwn(t *testing.T) {
	for _, d := range some(t) {
		arg := withRoom(d)
		s := storeOf(t, arg)
		m := modelOf(t, d)
		spoil(arg)
		p := pair{s, m}
		p.same(t)
		one := diskOf(t, s)
		spoil(one)
		p.same(t)
		p.look(t)
		l := changes(of("b", chars(300, 'v')), away("a"))
		p.put(t, 0, l)
		clear(l)
		p.same(t)
		two := diskOf(t, s)
		if !disk.Same(two, m.disk) {
			t.Error("two answers of Disk share memory")
		}
		spoil(two)
		p.same(t)
		for look := range 2 {
			l, _ := s.Range(look, "", "")
			clear(l[:cap(l)])
			p.same(t)
		}
		if t.Failed() {
			t.Fatalf("a disk of %d sectors, %d writes wait", d.Count, len(d.Waits))
		}
	}
}

func TestDisksAreNewMemory(t *testing.T) {
	for _, d := range some(t) {
		s := storeOf(t, d)
		one, two := diskOf(t, s), diskOf(t, s)
		for i := range one.Waits {
			turn(one.Waits[i].Data)
			if i+1 < len(one.Waits) && !bytes.Equal(one.Waits[i+1].Data, d.Waits[i+1].Data) || !bytes.Equal(one.Data, d.Data) {
				t.Fatal("two lists of one answer share memory")
			}
		}
		spoil(one)
		if !disk.Same(two, d) {
			t.Error("two answers share memory")
		}
		// What was told stays behind a later put.
		if e := s.Put(0, changes(of("later", "x"))); e != api.OK || !disk.Same(two, d) {
			t.Errorf("Put = %d, and what Disk answered ahead of it is another one", e)
		}
	}
}

func TestActsAreNewMemory(t *testing.T) {
	for _, d := range some(t) {
		s := storeOf(t, d)
		for _, l := range [][]api.Change{changes(of("a", "x")), pressing()} {
			one, e := s.Acts(0, l)
			two, f := s.Acts(0, l)
			want, _, g := tree.Put(d, l, modelOf(t, d).number)
			if e != api.OK || f != api.OK || g != api.OK {
				t.Fatalf("errors %d, %d, %d", e, f, g)
			}
			for i := range one {
				turn(one[i].Put.Data)
				if i+1 < len(one) && !bytes.Equal(one[i+1].Put.Data, want[i+1].Put.Data) {
					t.Fatal("two acts of one answer share memory")
				}
			}
			clear(one[:cap(one)])
			if !sameActs(two, want) {
				t.Error("two answers of Acts share memory")
			}
			wantDisk(t, s, d)
			for i := range two {
				turn(two[i].Put.Data)
			}
			wantActs(t, s, 0, l, want, api.OK)
		}
	}
}

// pair is a store, and the model of it: each call is asked of both.
type pair struct {
	s *Store
	m *modelStore
}

func pairOf(t testing.TB, d api.Disk) pair {
	t.Helper()
	return pair{storeOf(t, d), modelOf(t, d)}
}

func (p pair) look(t *testing.T) api.Errno {
	t.Helper()
	n, e := p.m.look()
	wantLook(t, p.s, n, e)
	return e
}

func (p pair) drop(t *testing.T, look int) api.Errno {
	t.Helper()
	e := p.m.drop(look)
	wantDrop(t, p.s, look, e)
	return e
}

func (p pair) get(t *testing.T, look int, key string) api.Errno {
	t.Helper()
	v, is, e := p.m.get(look, key)
	wantGet(t, p.s, look, key, v, is, e)
	return e
}

func (p pair) list(t *testing.T, look int, from, to string) api.Errno {
	t.Helper()
	l, e := p.m.list(look, from, to)
	wantRange(t, p.s, look, from, to, l, e)
	return e
}

func (p pair) acts(t *testing.T, look int, l []api.Change) api.Errno {
	t.Helper()
	acts, e := p.m.acts(look, l)
	wantActs(t, p.s, look, l, acts, e)
	return e
}

func (p pair) put(t *testing.T, look int, l []api.Change) api.Errno {
	t.Helper()
	e := p.m.put(look, l)
	wantPut(t, p.s, look, e, l...)
	return e
}

// same asks that the disk is the model's, and for all that each look tells, those that are not there too.
func (p pair) same(t *testing.T) {
	t.Helper()
	wantDisk(t, p.s, p.m.disk)
	for _, look := range []int{-1, 0, p.m.taken + 1} {
		p.list(t, look, "", "")
	}
	for _, x := range p.m.looks {
		p.list(t, x.number, "", "")
	}
}

// tables is how many there are at the level 0: less by a press alone.
func (p pair) tables() int {
	l, _ := tree.Levels(p.m.disk)
	return l[0]
}

// drawLook is most often one that is there, 0 among them.
func (p pair) drawLook(r *rand.Rand) int {
	switch k := r.Intn(20); {
	case k == 0:
		return r.Intn(p.m.taken+3) - 1
	case k < 10 && len(p.m.looks) > 0:
		return p.m.looks[r.Intn(len(p.m.looks))].number
	}
	return 0
}

func drawBound(r *rand.Rand, keys []string) string {
	switch k := r.Intn(12); {
	case k == 0:
		return chars(257, 'k')
	case k < 4:
		return ""
	case k < 6:
		return chars(256, 'c')
	}
	return keys[r.Intn(len(keys))]
}

// drawCall draws a call, asks it of both, and tells its name with the error. Where looks are many, few are dropped.
func (p pair) drawCall(t *testing.T, r *rand.Rand, keys []string, many bool) string {
	t.Helper()
	name := func(s string, e api.Errno) string { return fmt.Sprintf("%s %d", s, e) }
	switch k := r.Intn(100); {
	case k < 7 || many && k < 50:
		return name("look", p.look(t))
	case !many && k < 15 || many && k < 53:
		return name("drop", p.drop(t, p.drawLook(r)))
	case k < 60 && k%4 == 0:
		return name("get", p.get(t, p.drawLook(r), drawBound(r, keys)))
	case k < 60 && k%4 == 1:
		return name("range", p.list(t, p.drawLook(r), drawBound(r, keys), drawBound(r, keys)))
	case k < 60 && k%4 == 2:
		return name("acts", p.acts(t, p.drawLook(r), drawChanges(r, keys)))
	case k >= 95:
		return name("put", p.put(t, p.drawLook(r), drawWrong(r, keys)))
	}
	return name("put", p.put(t, p.drawLook(r), drawChanges(r, keys)))
}

// Drawn rows of calls of two stores of one disk: each is as its model is, so that neither sees the other one.
func TestDrawnRows(t *testing.T) {
	r := rand.New(rand.NewSource(131))
	count, pressed := map[string]int{}, 0
	for round := range 16 {
		keys := drawKeys(r, 3+r.Intn(6))
		d := formatted(t, []int{96, 160, 1000, 1500}[round%4]+r.Intn(30))
		for range r.Intn(6) {
			d = putting(t, d, drawChanges(r, keys)...)
		}
		pairs, tables := []pair{pairOf(t, d), pairOf(t, d)}, []int{0, 0}
		spoil(d)
		for i := range 400 {
			k := r.Intn(2)
			name := pairs[k].drawCall(t, r, keys, round < 4)
			count[name]++
			if name == "put 0" {
				before := tables[k]
				if tables[k] = pairs[k].tables(); tables[k] < before {
					pressed++
				}
			}
			if i%50 == 49 {
				pairs[0].same(t)
				pairs[1].same(t)
			}
			if t.Failed() {
				t.Fatalf("round %d, call %d", round, i)
			}
		}
	}
	for _, name := range []string{"look 0", "look 4", "drop 0", "drop 130", "get 0", "get 60", "get 130", "range 0", "range 3", "range 130", "acts 0", "acts 131", "put 0", "put 131", "put 130", "put 3", "put 4", "put 6", "put 8", "put 30", "put 60"} {
		if count[name] < 5 {
			t.Errorf("%v: too few to tell of %s", count, name)
		}
	}
	if pressed < 10 || count["put 0"] < 800 || count["put 131"] < 300 {
		t.Errorf("%v, %d pressed: too few to tell", count, pressed)
	}
}

// What a look tells stays the same until it is dropped, whatever is put meanwhile, flushes and presses among it.
func TestLooksTellTheSame(t *testing.T) {
	r := rand.New(rand.NewSource(132))
	for range 4 {
		keys := drawKeys(r, 6)
		s := emptyStore(t, 1200)
		told := map[int][]api.Change{}
		presses := 0
		for range 60 {
			if len(told) < 5 && r.Intn(2) == 0 {
				n, _ := s.Look()
				told[n], _ = s.Range(0, "", "")
			} else if r.Intn(5) == 0 {
				for n := range told {
					wantDrop(t, s, n, api.OK)
					delete(told, n)
					break
				}
			}
			before, _ := tree.Levels(diskOf(t, s))
			s.Put(0, append(drawChanges(r, keys[:2]), of("long", drawText(r, 1400))))
			if after, _ := tree.Levels(diskOf(t, s)); after[0] < before[0] {
				presses++
			}
			for n, l := range told {
				wantRange(t, s, n, "", "", l, api.OK)
			}
		}
		if presses < 1 {
			t.Errorf("%d presses: too few to tell", presses)
		}
	}
}

// A put by a look is refused just if one of its keys counts otherwise now; of two by one look of the same keys the second one is, if the first one changed one of them.
func TestPutsByLooksAreRefusedJustIf(t *testing.T) {
	r := rand.New(rand.NewSource(133))
	refused, through, seconds := 0, 0, 0
	for range 25 {
		keys := drawKeys(r, 4)
		s := emptyStore(t, 600)
		for range 3 {
			s.Put(0, drawChanges(r, keys))
		}
		look, _ := s.Look()
		for range 12 {
			l := drawChanges(r, keys)
			want := api.OK
			changed := false
			for _, c := range l {
				was, wasThere, _ := s.Get(look, c.Key)
				now, isThere, _ := s.Get(0, c.Key)
				if was != now || wasThere != isThere {
					want = api.ErrRace
				}
				changed = changed || c.Gone == isThere || c.Value != now
			}
			wantPut(t, s, look, want, l...)
			if want != api.OK {
				refused++
				continue
			}
			through++
			want = api.OK
			if changed {
				want = api.ErrRace
				seconds++
			}
			wantPut(t, s, look, want, l...)
		}
	}
	if refused < 50 || through < 50 || seconds < 20 {
		t.Errorf("%d refused, %d through, %d of them once: too few to tell", refused, through, seconds)
	}
}

// Behind an error the store is as it was, its next look's number too.
func TestWithAnErrorNothingChanges(t *testing.T) {
	s := fullDisk(t)
	for n := range 63 {
		wantLook(t, s, n+2, api.OK)
	}
	before := tells(s)
	for _, look := range []int{-1, 0, 1, 64, 65} {
		for _, key := range []string{"a", "", chars(257, 'k')} {
			s.Get(look, key)
			s.Range(look, key, "")
			s.Range(look, "", key)
		}
		for _, l := range [][]api.Change{nil, keyed(65), changes(of("", "")), pressing()} {
			if _, e := s.Acts(look, l); e == api.OK {
				t.Errorf("Acts(%d, %s) = %d", look, short(l), e)
			}
			if e := s.Put(look, l); e == api.OK {
				t.Errorf("Put(%d, %s) = %d", look, short(l), e)
			}
		}
	}
	wantPut(t, s, 1, api.ErrRace, of("a", "w"))
	for _, look := range []int{-1, 0, 65} {
		wantDrop(t, s, look, api.ErrSnap)
	}
	wantLook(t, s, 0, api.ErrMany)
	if tells(s) != before {
		t.Error("an error changed something")
	}
	wantDrop(t, s, 64, api.OK)
	wantLook(t, s, 65, api.OK)
}

// A put's acts that a loss of power breaks off leave a disk whose store tells all of them, or none.
func TestPutsThroughLossesOfPower(t *testing.T) {
	r := rand.New(rand.NewSource(134))
	pressed, _ := aheadOfPress(t, 3)
	small := emptyStore(t, 100)
	wantPut(t, small, 0, api.OK, of("a", "x"))
	old, now := 0, 0
	for _, s := range []*Store{pressed, small} {
		d := diskOf(t, s)
		l := append(pressing(), away("k"), of("a", "y"))
		before, _ := s.Range(0, "", "")
		acts, e := s.Acts(0, l)
		wantPut(t, s, 0, e, l...)
		behind, _ := s.Range(0, "", "")
		for n := range len(acts) + 1 {
			x := done(t, d, acts[:n], api.OK)
			for range 3 {
				keep := make([]bool, len(x.Waits))
				for k := range keep {
					keep[k] = r.Intn(2) == 0
				}
				y, _ := disk.Crash(x, keep)
				switch got, e := storeOf(t, y).Range(0, "", ""); {
				case e == api.OK && n < len(acts) && slices.Equal(got, before):
					old++
				case e == api.OK && slices.Equal(got, behind):
					now++
				default:
					t.Fatalf("broken off behind %d of %d acts, %v stays: %s, %d", n, len(acts), keep, short(got), e)
				}
			}
		}
	}
	if old < 50 || now < 6 {
		t.Errorf("%d losses before, %d behind: too few to tell", old, now)
	}
}
