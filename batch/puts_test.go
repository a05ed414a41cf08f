package batch

import (
	"fmt"
	"slices"
	"testing"

	"docket/api"
	"docket/tree"
)

const end = 1<<31 - 1 // the greatest number of changes

func TestPutsByLooks(t *testing.T) {
	s := emptyStore(t, 200)
	wantPutBy(t, s, 0, 0, of("a", "x"))
	wantPutBy(t, s, 0, 1, of("a", "y"), away("b"), of("c", ""))
	wantLook(t, s, 1, api.OK)
	wantPutBy(t, s, 1, 2, of("d", "x"), of("a", "z"))
	wantLook(t, s, 2, api.OK)
	wantPutBy(t, s, 2, 2, away("a"), away("never"))
	wantPutBy(t, s, 0, 2, of("a", "again"))
	wantRange(t, s, 0, "", "", changes(of("a", "again"), of("c", ""), of("d", "x")), api.OK)
	wantRange(t, s, 1, "", "", changes(of("a", "y"), of("c", "")), api.OK)
	wantRange(t, s, 2, "", "", changes(of("a", "z"), of("c", ""), of("d", "x")), api.OK)
}

func TestHowManyChanges(t *testing.T) {
	for _, look := range []int{0, 1} {
		s := emptyStore(t, 200)
		wantLook(t, s, 1, api.OK)
		wantRefused(t, s, look, api.ErrNone)
		wantRefused(t, s, look, api.ErrMany, keyed(65)...)
		wantRefused(t, s, look, api.ErrMany, make([]api.Change, 1000)...)
		wantPutBy(t, s, look, 0, of("one", "change"))
		wantPutBy(t, s, look, 0, keyed(64)...)
		wantRange(t, s, 0, "key", "", append(keyed(64), of("one", "change")), api.OK)
	}
}

func TestChangesThatMayNotBe(t *testing.T) {
	// The longest value beside a key of one byte: the record of the number 1 has 4096 bytes.
	most := chars(api.MaxRecord-7, 'v')
	for _, look := range []int{0, 1} {
		s := emptyStore(t, 200)
		wantLook(t, s, 1, api.OK)
		wantRefused(t, s, look, api.ErrKey, of("", "x"))
		wantRefused(t, s, look, api.ErrKey, of("a", "x"), away(""))
		wantRefused(t, s, look, api.ErrKey, of(chars(257, 'k'), "x"))
		wantRefused(t, s, look, api.ErrText, of("a", chars(4097, 'v')))
		wantRefused(t, s, look, api.ErrText, of("a", chars(4096, 'v')))
		wantRefused(t, s, look, api.ErrText, of("a", most+"v"))
		wantRefused(t, s, look, api.ErrBad, of("a", "x"), of("b", "x"), of("a", "x"))
		wantRefused(t, s, look, api.ErrBad, of("a", "x"), away("a"))
		wantRefused(t, s, look, api.ErrBad, api.Change{Key: "a", Value: "x", Gone: true})
		wantPutBy(t, s, look, 0, of("a", most))
		wantGet(t, s, 0, "a", most, true, api.OK)
		wantPutBy(t, s, look, 0, of(chars(256, 'k'), "x"))
		wantGet(t, s, 0, chars(256, 'k'), "x", true, api.OK)
	}
}

func TestTheLastNumber(t *testing.T) {
	d := withFiles(t, 200, of("l0.1", tableOf(t, api.Entry{Key: "a", Value: "x", Seq: end - 1})))
	s := storeOf(t, d)
	wantLook(t, s, 1, api.OK)
	wantPutBy(t, s, 1, end-1, of("a", "y"))
	wantLook(t, s, 2, api.OK)
	wantRefused(t, s, 0, api.ErrArg, of("b", "x"))
	wantRefused(t, s, 2, api.ErrArg, of("b", "x"))
	// The number is judged ahead of the changes, and both ahead of a race.
	wantRefused(t, s, 0, api.ErrArg)
	wantRefused(t, s, 1, api.ErrArg, of("a", "z"))
	wantGet(t, s, 1, "a", "x", true, api.OK)
	wantGet(t, s, 2, "a", "y", true, api.OK)
}

// race is what is put between a look and a put by it, and what that put is answered. At the look a is x, b is y, and e is empty; c and d are not there.
type race struct {
	name      string
	meanwhile [][]api.Change
	l         []api.Change
	e         api.Errno
}

func races() []race {
	puts := func(l ...[]api.Change) [][]api.Change { return l }
	one := func(l ...api.Change) [][]api.Change { return puts(l) }
	return []race{
		{"nothing", nil, changes(of("a", "z")), api.OK},
		{"another value", one(of("a", "z")), changes(of("a", "w")), api.ErrRace},
		{"the value that is to be put", one(of("a", "z")), changes(of("a", "z")), api.ErrRace},
		{"a longer value", one(of("a", "x\x00")), changes(of("a", "w")), api.ErrRace},
		{"the same value", one(of("a", "x")), changes(of("a", "w")), api.OK},
		{"another one and back", puts(changes(of("a", "z")), changes(of("a", "x"))), changes(of("a", "w")), api.OK},
		{"taken away", one(away("a")), changes(of("a", "w")), api.ErrRace},
		{"taken away, to be put as it was", one(away("a")), changes(of("a", "x")), api.ErrRace},
		{"taken away, to be taken away", one(away("a")), changes(away("a")), api.ErrRace},
		{"taken away and put again", puts(changes(away("a")), changes(of("a", "x"))), changes(of("a", "w")), api.OK},
		{"taken away and put again otherwise", puts(changes(away("a")), changes(of("a", "y"))), changes(of("a", "w")), api.ErrRace},
		{"came newly", one(of("c", "z")), changes(of("c", "w")), api.ErrRace},
		{"came newly, to be taken away", one(of("c", "z")), changes(away("c")), api.ErrRace},
		{"came newly and empty", one(of("c", "")), changes(of("c", "w")), api.ErrRace},
		{"came and went", puts(changes(of("c", "z")), changes(away("c"))), changes(of("c", "w")), api.OK},
		{"taken away, though not there", one(away("c")), changes(of("c", "w")), api.OK},
		{"an empty one taken away", one(away("e")), changes(of("e", "w")), api.ErrRace},
		{"an empty one put anew", one(of("e", "")), changes(of("e", "w")), api.OK},
		{"an empty one that is filled", one(of("e", "x")), changes(away("e")), api.ErrRace},
		{"others", one(of("b", "z"), away("e"), of("c", "x")), changes(of("a", "w"), of("d", "w")), api.OK},
		{"others close by", one(of("a\x00", "z"), of("aa", "z"), of("A", "z"), of("`", "z")), changes(of("a", "w")), api.OK},
		{"the first of several", one(of("a", "z")), changes(of("a", "w"), of("b", "w"), of("d", "w")), api.ErrRace},
		{"the second of several", one(of("a", "z")), changes(of("b", "w"), of("a", "w"), of("d", "w")), api.ErrRace},
		{"the last of several", one(of("a", "z")), changes(of("d", "w"), of("e", "w"), of("a", "w")), api.ErrRace},
		{"one that was not there among several", one(of("d", "z")), changes(of("a", "w"), of("d", "w"), of("e", "w")), api.ErrRace},
		{"one to be taken away", one(of("b", "z")), changes(of("a", "w"), away("b")), api.ErrRace},
	}
}

func TestRaces(t *testing.T) {
	for _, c := range races() {
		for _, fill := range []int{0, 3, 12} {
			s := emptyStore(t, 1000)
			wantPut(t, s, 0, api.OK, of("a", "x"), of("b", "y"), of("e", ""))
			wantLook(t, s, 1, api.OK)
			for _, l := range c.meanwhile {
				wantPut(t, s, 0, api.OK, l...)
			}
			// What is put besides drives the others out of the log, into tables, and these together.
			for i := range fill {
				wantPut(t, s, 0, api.OK, of("other", chars(3500, byte('a'+i))))
			}
			if c.e == api.OK {
				wantPutBy(t, s, 1, 1, c.l...)
			} else {
				wantRefused(t, s, 1, c.e, c.l...)
			}
			// By the look 0, or by one that was taken behind it all, it goes through.
			wantPutBy(t, s, 0, 1, c.l...)
			wantLook(t, s, 2, api.OK)
			wantPutBy(t, s, 2, 1, c.l...)
			if t.Failed() {
				t.Fatalf("%s, %d more puts", c.name, fill)
			}
		}
	}
}

func TestTwoPutsByOneLook(t *testing.T) {
	s := emptyStore(t, 200)
	wantPut(t, s, 0, api.OK, of("a", "x"), of("b", "y"))
	wantLook(t, s, 1, api.OK)
	wantLook(t, s, 2, api.OK)
	// The first one leaves its keys as they were: the second one goes through, and no third one.
	wantPut(t, s, 1, api.OK, of("a", "x"), of("b", "y"))
	wantPut(t, s, 1, api.OK, of("a", "x"), of("b", "z"))
	wantRefused(t, s, 1, api.ErrRace, of("a", "w"), of("b", "w"))
	wantRefused(t, s, 2, api.ErrRace, of("b", "w"))
	wantPut(t, s, 2, api.OK, of("a", "w"))
	wantRefused(t, s, 1, api.ErrRace, of("a", "w"))
	wantRange(t, s, 0, "", "", changes(of("a", "w"), of("b", "z")), api.OK)
	// Acts alone change nothing: they may be asked again and again.
	wantLook(t, s, 3, api.OK)
	one, e := s.Acts(3, changes(of("a", "v")))
	two, f := s.Acts(3, changes(of("a", "v")))
	if e != api.OK || f != api.OK || !sameActs(one, two) {
		t.Errorf("Acts = %s, %d and %s, %d", shortActs(one), e, shortActs(two), f)
	}
	wantPut(t, s, 3, api.OK, of("a", "v"))
	wantRefused(t, s, 3, api.ErrRace, of("a", "v"))
}

// fullDisk is a store of a small disk on which there is no room for one more value of 1500 bytes; a is x at the look 1, and y now.
func fullDisk(t *testing.T) *Store {
	t.Helper()
	s := emptyStore(t, 96)
	wantPut(t, s, 0, api.OK, of("a", "x"))
	wantLook(t, s, 1, api.OK)
	wantPut(t, s, 0, api.OK, of("a", "y"))
	for i := range 100 {
		switch e := s.Put(0, changes(of(fmt.Sprint("fill", i), chars(1500, 'v')))); e {
		case api.OK:
		case api.ErrSpace:
			return s
		default:
			t.Fatalf("Put: error %d", e)
		}
	}
	t.Fatal("there is room on the disk")
	return nil
}

func TestNoRoom(t *testing.T) {
	s := fullDisk(t)
	more := of("more", chars(1500, 'v'))
	before := tells(s)
	for _, look := range []int{0, 1} {
		wantRefused(t, s, look, api.ErrSpace, more)
		wantRefused(t, s, look, api.ErrSpace, of("b", "x"), more)
	}
	if tells(s) != before {
		t.Error("a put without room changed something")
	}
	// Looks go on, by their own numbers, and so do puts for which there is room.
	wantLook(t, s, 2, api.OK)
	wantGet(t, s, 1, "a", "x", true, api.OK)
	wantGet(t, s, 2, "a", "y", true, api.OK)
	wantPut(t, s, 2, api.OK, of("a", "z"))
	wantGet(t, s, 0, "a", "z", true, api.OK)
	wantRefused(t, s, 2, api.ErrRace, of("a", "w"))
	wantDrop(t, s, 1, api.OK)
	wantRefused(t, s, 0, api.ErrSpace, more)
}

func TestOrderOfErrors(t *testing.T) {
	s := fullDisk(t)
	raced, long := of("a", "w"), of("more", chars(1500, 'v'))
	// A race goes ahead of tree.Put's error.
	wantRefused(t, s, 1, api.ErrRace, raced, long)
	wantRefused(t, s, 1, api.ErrRace, long, raced)
	wantRefused(t, s, 0, api.ErrSpace, raced, long)
	wantRefused(t, s, 1, api.ErrSpace, long)
	// tree.Write's error goes ahead of a race.
	for _, c := range []struct {
		l []api.Change
		e api.Errno
	}{
		{nil, api.ErrNone},
		{append(keyed(64), raced), api.ErrMany},
		{changes(raced, of("", "")), api.ErrKey},
		{changes(raced, of(chars(257, 'k'), "")), api.ErrKey},
		{changes(raced, of("b", chars(4097, 'v'))), api.ErrText},
		{changes(raced, of("b", chars(4090, 'v'))), api.ErrText},
		{changes(raced, raced), api.ErrBad},
		{changes(raced, api.Change{Key: "b", Value: "x", Gone: true}), api.ErrBad},
	} {
		wantRefused(t, s, 1, c.e, c.l...)
		wantRefused(t, s, 0, c.e, c.l...)
		// A look that is not there goes ahead of all.
		for _, look := range []int{-1, 2, 3} {
			wantRefused(t, s, look, api.ErrSnap, c.l...)
		}
	}
	for _, look := range []int{-1, 2, 3} {
		wantRefused(t, s, look, api.ErrSnap, raced)
		wantRefused(t, s, look, api.ErrSnap, long)
		wantRefused(t, s, look, api.ErrSnap, of("b", "x"))
	}
}

// aheadOfPress is a store whose next put must flush and press: of the key k there is a value of each number. A look is taken behind each of the puts that are told. The number is the tree's.
func aheadOfPress(t *testing.T, looks ...int) (*Store, int) {
	t.Helper()
	s := emptyStore(t, 2000)
	for n := range 50 {
		if slices.Contains(looks, n) {
			s.Look()
		}
		d := diskOf(t, s)
		acts, _, e := tree.Put(d, changes(filling(n+1)), n)
		if l, _ := tree.Levels(done(t, d, acts, e)); l[1] > 0 {
			return s, n
		}
		wantPut(t, s, 0, api.OK, filling(n+1))
	}
	t.Fatal("no put must press")
	return nil, 0
}

// pressing are changes that are too long for what room the log has then.
func pressing() []api.Change { return changes(of("new", chars(3000, 'n'))) }

func filling(n int) api.Change { return of("k", fmt.Sprint(n, chars(3000, 'v'))) }

// Each number that is kept comes to acts of its own where a put presses.
func TestNumbersToKeepCanBeTold(t *testing.T) {
	s, n := aheadOfPress(t)
	d := diskOf(t, s)
	var all [][]api.Act
	for keep := range n + 1 {
		acts, _, e := tree.Put(d, pressing(), keep)
		if e != api.OK {
			t.Fatalf("tree.Put: error %d", e)
		}
		// At 0 there was nothing yet: to keep 0 or 1 leaves the same.
		if keep > 1 && slices.ContainsFunc(all, func(l []api.Act) bool { return sameActs(l, acts) }) {
			t.Errorf("the same acts for another number than %d", keep)
		}
		all = append(all, acts)
	}
	if n < 6 {
		t.Errorf("the number %d: too small to tell", n)
	}
}

// wantKept asks that a put which presses has the acts of tree.Put keeping a number.
func wantKept(t *testing.T, s *Store, look, keep int) {
	t.Helper()
	l := pressing()
	acts, _, e := tree.Put(diskOf(t, s), l, keep)
	if levels, _ := tree.Levels(done(t, diskOf(t, s), acts, e)); levels[1] != 1 {
		t.Fatalf("the put does not press: levels %v", levels)
	}
	wantActs(t, s, look, l, acts, e)
}

func TestTheNumberThatIsKept(t *testing.T) {
	// No look: the tree's number.
	s, n := aheadOfPress(t)
	wantKept(t, s, 0, n)
	// One look of now is the same; one of before is less.
	wantLook(t, s, 1, api.OK)
	wantKept(t, s, 0, n)
	wantKept(t, s, 1, n)
	wantDrop(t, s, 1, api.OK)
	wantKept(t, s, 0, n)
	s, n = aheadOfPress(t, 4)
	wantKept(t, s, 0, 4)
	wantKept(t, s, 1, 4)
	wantDrop(t, s, 1, api.OK)
	wantKept(t, s, 0, n)
	// Several: the least moment, whichever look is put by, and whichever is dropped.
	s, n = aheadOfPress(t, 2, 3, 5)
	for look := range 4 {
		wantKept(t, s, look, 2)
	}
	wantLook(t, s, 4, api.OK)
	wantKept(t, s, 4, 2)
	wantDrop(t, s, 2, api.OK)
	wantKept(t, s, 0, 2)
	wantDrop(t, s, 1, api.OK)
	wantKept(t, s, 0, 5)
	wantKept(t, s, 4, 5)
	wantLook(t, s, 5, api.OK)
	wantDrop(t, s, 3, api.OK)
	wantKept(t, s, 0, n)
	wantDrop(t, s, 4, api.OK)
	wantDrop(t, s, 5, api.OK)
	wantKept(t, s, 0, n)
	// A look of the empty tree keeps 0: at 1 there is less to be left out.
	s, _ = aheadOfPress(t, 0, 1)
	wantKept(t, s, 0, 0)
	wantDrop(t, s, 1, api.OK)
	wantKept(t, s, 0, 1)
	wantDrop(t, s, 1, api.ErrSnap)
	wantKept(t, s, 2, 1)
}

// A put that flushes and presses leaves what looks tell, and only what is below all of them is forgotten.
func TestPutThatPresses(t *testing.T) {
	s, n := aheadOfPress(t, 0, 2, 3, 5)
	wantDrop(t, s, 1, api.OK)
	wantPutBy(t, s, 2, 2, pressing()...)
	d := diskOf(t, s)
	if l, _ := tree.Levels(d); !slices.Equal(l, []int{0, 1, 0, 0}) {
		t.Errorf("levels %v", l)
	}
	for look, number := range map[int]int{2: 2, 3: 3, 4: 5} {
		wantRange(t, s, look, "", "", changes(filling(number)), api.OK)
		wantGet(t, s, look, "k", filling(number).Value, true, api.OK)
		wantGet(t, s, look, "new", "", false, api.OK)
		wantRefused(t, s, look, api.ErrRace, of("k", "x"))
		wantRefused(t, s, look, api.ErrRace, of("new", "x"))
	}
	wantRange(t, s, 0, "", "", append(changes(filling(n)), pressing()...), api.OK)
	if _, is, _ := tree.Get(d, "k", 1); is {
		t.Error("what no look asks for any more was kept")
	}
	// The next looks are dropped, and then presses forget what they told too.
	wantDrop(t, s, 2, api.OK)
	wantDrop(t, s, 3, api.OK)
	for range 30 {
		wantPut(t, s, 0, api.OK, of("other", chars(3000, 'o')))
	}
	wantRange(t, s, 4, "", "", changes(filling(5)), api.OK)
	for number, want := range map[int]bool{2: false, 3: false, 5: true} {
		if _, is, _ := tree.Get(diskOf(t, s), "k", number); is != want {
			t.Errorf("there is a k at %d: %t", number, is)
		}
	}
}

// Where as many writes wait as may, tree.Put has acts, but a disk takes none of them.
func TestAsManyWritesAsMayWait(t *testing.T) {
	d := formatted(t, 100)
	for len(d.Waits) < api.MaxSectors {
		d.Waits = append(d.Waits, api.Put{Sector: 99, Data: make([]byte, api.Sector)})
	}
	s := storeOf(t, d)
	wantLook(t, s, 1, api.OK)
	l := changes(of("a", "x"))
	acts, _, e := tree.Put(d, l, 0)
	if e != api.OK {
		t.Fatalf("tree.Put: error %d", e)
	}
	for _, look := range []int{0, 1} {
		before := tells(s)
		wantActs(t, s, look, l, acts, api.OK)
		wantPut(t, s, look, api.ErrMany, l...)
		if tells(s) != before {
			t.Error("a put that was refused changed something")
		}
	}
	wantLook(t, s, 2, api.OK)
	// One less, and there is room for the record's one sector.
	d.Waits = d.Waits[1:]
	s = storeOf(t, d)
	wantPutBy(t, s, 0, 0, l...)
	wantGet(t, s, 0, "a", "x", true, api.OK)
}
