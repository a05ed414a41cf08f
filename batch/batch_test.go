package batch

import (
	"bytes"
	"fmt"
	"slices"
	"testing"

	"docket/api"
	"docket/disk"
	"docket/files"
	"docket/log"
	"docket/table"
	"docket/tree"
)

func storeOf(t testing.TB, d api.Disk) *Store {
	t.Helper()
	s, e := New(d)
	if e != api.OK || s == nil {
		t.Fatalf("New: error %d", e)
	}
	return s
}

// emptyStore is a store of an empty tree.
func emptyStore(t testing.TB, count int) *Store {
	t.Helper()
	return storeOf(t, formatted(t, count))
}

func diskOf(t testing.TB, s *Store) api.Disk {
	t.Helper()
	d, e := s.Disk()
	if e != api.OK {
		t.Fatalf("Disk: error %d", e)
	}
	return d
}

func wantDisk(t *testing.T, s *Store, want api.Disk) {
	t.Helper()
	if got, e := s.Disk(); !disk.Same(got, want) || e != api.OK {
		t.Errorf("Disk is another one, of %d sectors and %d writes that wait, error %d", got.Count, len(got.Waits), e)
	}
}

func wantLook(t *testing.T, s *Store, want int, e api.Errno) {
	t.Helper()
	if got, ge := s.Look(); got != want || ge != e {
		t.Errorf("Look = %d, %d, want %d, %d", got, ge, want, e)
	}
}

func wantDrop(t *testing.T, s *Store, look int, e api.Errno) {
	t.Helper()
	if ge := s.Drop(look); ge != e {
		t.Errorf("Drop(%d) = %d, want %d", look, ge, e)
	}
}

func wantGet(t *testing.T, s *Store, look int, key, want string, is bool, e api.Errno) {
	t.Helper()
	if got, gi, ge := s.Get(look, key); got != want || gi != is || ge != e {
		t.Errorf("Get(%d, %.20q) = %.20q, %t, %d, want %.20q, %t, %d", look, key, got, gi, ge, want, is, e)
	}
}

func wantRange(t *testing.T, s *Store, look int, from, to string, want []api.Change, e api.Errno) {
	t.Helper()
	if got, ge := s.Range(look, from, to); !slices.Equal(got, want) || ge != e {
		t.Errorf("Range(%d, %.20q, %.20q) = %s, %d, want %s, %d", look, from, to, short(got), ge, short(want), e)
	}
}

func wantActs(t *testing.T, s *Store, look int, l []api.Change, want []api.Act, e api.Errno) {
	t.Helper()
	if got, ge := s.Acts(look, l); !sameActs(got, want) || ge != e {
		t.Errorf("Acts(%d, %s) = %s, %d, want %s, %d", look, short(l), shortActs(got), ge, shortActs(want), e)
	}
}

func wantPut(t *testing.T, s *Store, look int, e api.Errno, l ...api.Change) {
	t.Helper()
	if ge := s.Put(look, l); ge != e {
		t.Errorf("Put(%d, %s) = %d, want %d", look, short(l), ge, e)
	}
}

// wantRefused asks Acts and Put for an error, and that nothing has changed by it.
func wantRefused(t *testing.T, s *Store, look int, e api.Errno, l ...api.Change) {
	t.Helper()
	before := tells(s)
	wantActs(t, s, look, l, nil, e)
	wantPut(t, s, look, e, l...)
	if tells(s) != before {
		t.Errorf("Put(%d, %s) was refused and changed something", look, short(l))
	}
}

// wantPutBy asks that Acts answers those of tree.Put, keeping a number, and that behind Put the disk has them done.
func wantPutBy(t *testing.T, s *Store, look, keep int, l ...api.Change) {
	t.Helper()
	d := diskOf(t, s)
	acts, _, e := tree.Put(d, l, keep)
	wantActs(t, s, look, l, acts, e)
	wantDisk(t, s, d)
	wantPut(t, s, look, e, l...)
	wantDisk(t, s, done(t, d, acts, e))
}

// tells is all that a store tells without being changed.
func tells(s *Store) string {
	var b bytes.Buffer
	d, e := s.Disk()
	fmt.Fprintln(&b, d.Count, d.Data, d.Waits, e)
	for look := -2; look < 70; look++ {
		l, e := s.Range(look, "", "")
		fmt.Fprintln(&b, look, l, e)
	}
	return b.String()
}

func TestExamples(t *testing.T) {
	s := emptyStore(t, 200)
	wantPut(t, s, 0, api.OK, of("a", "x"))
	wantLook(t, s, 1, api.OK)
	wantPut(t, s, 0, api.OK, of("a", "y"))
	wantGet(t, s, 0, "a", "y", true, api.OK)
	wantGet(t, s, 1, "a", "x", true, api.OK)
	wantPut(t, s, 1, api.ErrRace, of("a", "z"))
	wantPut(t, s, 1, api.OK, of("b", "z"))
	wantGet(t, s, 1, "b", "", false, api.OK)
	wantDrop(t, s, 1, api.OK)
	wantGet(t, s, 1, "a", "", false, api.ErrSnap)
	wantDrop(t, s, 0, api.ErrSnap)
	wantLook(t, s, 2, api.OK)
	wantRange(t, s, 2, "", "", changes(of("a", "y"), of("b", "z")), api.OK)
}

// withFiles is a disk with such files beside an empty log.
func withFiles(t testing.TB, count int, l ...api.Change) api.Disk {
	t.Helper()
	d := formatted(t, count)
	acts, e := files.Turn(d, l)
	return done(t, d, acts, e)
}

func tableOf(t testing.TB, l ...api.Entry) string {
	t.Helper()
	b, e := table.Make(l)
	if e != api.OK {
		t.Fatalf("no table: error %d", e)
	}
	return string(b)
}

// withTables is a tree with a table and a record behind it.
func withTables(t testing.TB) api.Disk {
	t.Helper()
	d := withFiles(t, 200, of("l2.7", tableOf(t, api.Entry{Key: "a", Value: "x", Seq: 3}, api.Entry{Key: "b", Value: "y", Seq: 5})))
	return putting(t, d, away("b"), of("c", ""))
}

func TestNew(t *testing.T) {
	empty, tables := formatted(t, 96), withTables(t)
	for i, c := range []struct {
		d    api.Disk
		l    []api.Change
		keep int
	}{
		{empty, nil, 0},
		{waiting(empty), nil, 0},
		{putting(t, empty, of("k", "v")), changes(of("k", "v")), 1},
		{tables, changes(of("a", "x"), of("c", "")), 6},
		{waiting(tables), changes(of("a", "x"), of("c", "")), 6},
	} {
		s := storeOf(t, c.d)
		wantDisk(t, s, c.d)
		wantRange(t, s, 0, "", "", c.l, api.OK)
		wantRange(t, s, 1, "", "", nil, api.ErrSnap)
		wantPutBy(t, s, 0, c.keep, of("k", "w"))
		wantLook(t, s, 1, api.OK)
		if t.Failed() {
			t.Fatalf("tree %d", i)
		}
	}
}

func TestNewOfWhatIsNoTree(t *testing.T) {
	d := formatted(t, 100)
	tooMany := copied(d)
	for range api.MaxSectors + 1 {
		tooMany.Waits = append(tooMany.Waits, api.Put{Sector: 99, Data: make([]byte, api.Sector)})
	}
	cut := copied(d)
	cut.Data = cut.Data[1:]
	outside := copied(d)
	outside.Waits = []api.Put{{Sector: 100, Data: make([]byte, api.Sector)}}
	noughts, _ := disk.New(100)
	noLog, _ := files.Format(100)
	other, e := log.Add(d, "no record of changes")
	ahead, _ := tree.Write(changes(of("a", "x")), 2)
	second, _ := log.Add(d, ahead)
	for i, c := range []struct {
		d api.Disk
		e api.Errno
	}{
		{api.Disk{}, api.ErrDisk},
		{api.Disk{Count: -1}, api.ErrDisk},
		{tooMany, api.ErrDisk},
		{cut, api.ErrDisk},
		{outside, api.ErrDisk},
		{noughts, api.ErrMount},
		{noLog, api.ErrLog},
		{withFiles(t, 100, of("other", "file")), api.ErrTree},
		{withFiles(t, 100, of("l0.1", "no table")), api.ErrTree},
		{done(t, d, other, e), api.ErrTree},
		{done(t, d, second, api.OK), api.ErrTree},
	} {
		if s, e := New(c.d); s != nil || e != c.e {
			t.Errorf("New of the disk %d = %v, %d, want none, %d", i, s, e, c.e)
		}
	}
}

func TestStoreThatNewDidNotMake(t *testing.T) {
	for _, s := range []*Store{nil, {}, new(Store)} {
		if d, e := s.Disk(); e != api.ErrNil || d.Count != 0 || len(d.Data) != 0 || len(d.Waits) != 0 {
			t.Errorf("Disk = %v, %d", d, e)
		}
		wantLook(t, s, 0, api.ErrNil)
		for _, look := range []int{-1, 0, 1} {
			wantDrop(t, s, look, api.ErrNil)
			for _, key := range []string{"a", "", chars(257, 'k')} {
				wantGet(t, s, look, key, "", false, api.ErrNil)
				wantRange(t, s, look, key, key, nil, api.ErrNil)
				wantActs(t, s, look, changes(of(key, "x")), nil, api.ErrNil)
				wantPut(t, s, look, api.ErrNil, of(key, "x"))
			}
			wantActs(t, s, look, nil, nil, api.ErrNil)
			wantPut(t, s, look, api.ErrNil)
		}
		wantLook(t, s, 0, api.ErrNil)
	}
}

// A copy of a store is the same store: neither is left behind with looks or a disk that the other one has turned.
func TestCopyIsTheSameStore(t *testing.T) {
	s := emptyStore(t, 100)
	c := *s
	wantPut(t, s, 0, api.OK, of("a", "x"))
	wantLook(t, &c, 1, api.OK)
	wantPut(t, &c, 0, api.OK, of("a", "y"))
	wantGet(t, s, 1, "a", "x", true, api.OK)
	wantGet(t, s, 0, "a", "y", true, api.OK)
	wantLook(t, s, 2, api.OK)
	wantLook(t, &c, 3, api.OK)
}

func TestDisk(t *testing.T) {
	d := waiting(formatted(t, 100))
	s := storeOf(t, d)
	wantDisk(t, s, d)
	wantDisk(t, s, d)
	wantLook(t, s, 1, api.OK)
	wantActs(t, s, 0, nil, nil, api.ErrNone)
	wantDisk(t, s, d)
	for i := range 5 {
		l := changes(of("a", fmt.Sprint(i)), away("b"))
		d = putting(t, d, l...)
		wantPut(t, s, 0, api.OK, l...)
		wantDisk(t, s, d)
	}
	wantDrop(t, s, 1, api.OK)
	wantDisk(t, s, d)
	if n, e := tree.Open(diskOf(t, s)); n != 5 || e != api.OK {
		t.Errorf("the tree's number is %d, %d", n, e)
	}
}

func TestLooks(t *testing.T) {
	s := emptyStore(t, 100)
	for n := range 64 {
		wantLook(t, s, n+1, api.OK)
	}
	before := tells(s)
	for range 3 {
		wantLook(t, s, 0, api.ErrMany)
	}
	if tells(s) != before {
		t.Error("a look that was refused changed something")
	}
	wantRange(t, s, 64, "", "", nil, api.OK)
	wantRange(t, s, 65, "", "", nil, api.ErrSnap)
	// One is dropped: there is room for one more, of a number that never was.
	for i, n := range []int{64, 1, 30, 65, 66} {
		wantDrop(t, s, n, api.OK)
		wantLook(t, s, 65+i, api.OK)
		wantLook(t, s, 0, api.ErrMany)
		wantRange(t, s, n, "", "", nil, api.ErrSnap)
		wantRange(t, s, 65+i, "", "", nil, api.OK)
	}
	// All are dropped: numbers go on.
	for n := range 70 {
		want := api.OK
		if slices.Contains([]int{0, 64, 1, 30, 65, 66}, n) {
			want = api.ErrSnap
		}
		wantDrop(t, s, n, want)
	}
	for n := range 64 {
		wantLook(t, s, 70+n, api.OK)
	}
	wantLook(t, s, 0, api.ErrMany)
}

// A look that is taken and dropped again and again gets a new number each time, and is no room lost.
func TestNumbersDoNotComeAgain(t *testing.T) {
	s := emptyStore(t, 96)
	for n := range 500 {
		wantLook(t, s, n+1, api.OK)
		wantDrop(t, s, n+1, api.OK)
		wantDrop(t, s, n+1, api.ErrSnap)
	}
}

func TestDrop(t *testing.T) {
	s := emptyStore(t, 100)
	wantPut(t, s, 0, api.OK, of("a", "x"))
	wantLook(t, s, 1, api.OK)
	wantLook(t, s, 2, api.OK)
	before := tells(s)
	for _, look := range []int{0, -1, -2, 3, 64, 65, 1 << 40, -1 << 63} {
		wantDrop(t, s, look, api.ErrSnap)
	}
	if tells(s) != before {
		t.Error("a drop that was refused changed something")
	}
	wantGet(t, s, 0, "a", "x", true, api.OK)
	wantDrop(t, s, 1, api.OK)
	wantGet(t, s, 1, "a", "", false, api.ErrSnap)
	wantGet(t, s, 2, "a", "x", true, api.OK)
	wantDrop(t, s, 1, api.ErrSnap)
	wantDrop(t, s, 2, api.OK)
	wantDrop(t, s, 2, api.ErrSnap)
	wantGet(t, s, 0, "a", "x", true, api.OK)
	wantLook(t, s, 3, api.OK)
}

func TestGetAndRangeByLooks(t *testing.T) {
	s := emptyStore(t, 200)
	long := chars(256, 'k')
	wantLook(t, s, 1, api.OK)
	wantPut(t, s, 0, api.OK, of("a", "x"), of("b", ""), of(long, "long"))
	wantLook(t, s, 2, api.OK)
	wantLook(t, s, 3, api.OK)
	wantPut(t, s, 0, api.OK, away("a"), of("c", "z"))
	wantPut(t, s, 0, api.OK, of("b", "y"))
	wantLook(t, s, 4, api.OK)
	wantDrop(t, s, 3, api.OK)
	second := changes(of("a", "x"), of("b", ""), of(long, "long"))
	fourth := changes(of("b", "y"), of("c", "z"), of(long, "long"))
	for _, c := range []struct {
		look int
		l    []api.Change
	}{{1, nil}, {2, second}, {4, fourth}, {0, fourth}} {
		wantRange(t, s, c.look, "", "", c.l, api.OK)
		for _, key := range []string{"a", "b", "c", "d", long, chars(255, 'k')} {
			i := slices.IndexFunc(c.l, func(x api.Change) bool { return x.Key == key })
			if i < 0 {
				wantGet(t, s, c.look, key, "", false, api.OK)
			} else {
				wantGet(t, s, c.look, key, c.l[i].Value, true, api.OK)
			}
		}
		wantGet(t, s, c.look, "", "", false, api.ErrKey)
		wantGet(t, s, c.look, long+"k", "", false, api.ErrKey)
		wantRange(t, s, c.look, long+"k", "", nil, api.ErrText)
		wantRange(t, s, c.look, "", long+"k", nil, api.ErrText)
		wantRange(t, s, c.look, "b", "a", nil, api.OK)
	}
	wantRange(t, s, 2, "b", "", second[1:], api.OK)
	wantRange(t, s, 2, "a\x00", long, second[1:2], api.OK)
	wantRange(t, s, 2, "", "b", second[:1], api.OK)
	wantRange(t, s, 4, "c", "c\x00", fourth[1:2], api.OK)
	// A look that is not there is told ahead of what may not be asked.
	for _, look := range []int{-1, 3, 5, 1 << 40} {
		for _, key := range []string{"a", "", long + "k"} {
			wantGet(t, s, look, key, "", false, api.ErrSnap)
			wantRange(t, s, look, key, "", nil, api.ErrSnap)
			wantRange(t, s, look, "", key, nil, api.ErrSnap)
		}
	}
}
