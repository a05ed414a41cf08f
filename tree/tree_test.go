package tree

import (
	"bytes"
	"errors"
	"fmt"
	"math"
	"math/rand"
	"slices"
	"strings"
	"testing"

	"docket/api"
	"docket/disk"
	"docket/files"
	"docket/table"
)

func at(key, value string, seq int) api.Entry { return api.Entry{Key: key, Value: value, Seq: seq} }

func goneAt(key string, seq int) api.Entry { return api.Entry{Key: key, Seq: seq, Gone: true} }

// entries are so many, each with a key of its own, all at one number.
func entries(n, seq int) []api.Entry {
	var l []api.Entry
	for i := range n {
		l = append(l, at(fmt.Sprintf("key%04d", i), "", seq))
	}
	return l
}

func formatted(t testing.TB, count int) api.Disk {
	t.Helper()
	d, e := Format(count)
	if e != api.OK {
		t.Fatalf("Format(%d): error %d", count, e)
	}
	return d
}

func wantOpen(t *testing.T, d api.Disk, want int, e api.Errno) {
	t.Helper()
	if got, ge := Open(d); got != want || ge != e {
		t.Errorf("Open = %d, %d, want %d, %d", got, ge, want, e)
	}
}

func wantGet(t *testing.T, d api.Disk, key string, seq int, want string, is bool, e api.Errno) {
	t.Helper()
	if got, gi, ge := Get(d, key, seq); got != want || gi != is || ge != e {
		t.Errorf("Get(%.20q, %d) = %.20q, %t, %d, want %.20q, %t, %d", key, seq, got, gi, ge, want, is, e)
	}
}

func wantRange(t *testing.T, d api.Disk, from, to string, seq int, want []api.Change, e api.Errno) {
	t.Helper()
	if got, ge := Range(d, from, to, seq); !slices.Equal(got, want) || ge != e {
		t.Errorf("Range(%.20q, %.20q, %d) = %s, %d, want %s, %d", from, to, seq, short(got), ge, short(want), e)
	}
}

func wantLevels(t *testing.T, d api.Disk, want ...int) {
	t.Helper()
	if got, e := Levels(d); !slices.Equal(got, want) || e != api.OK {
		t.Errorf("Levels = %v, %d, want %v", got, e, want)
	}
}

func wantNames(t *testing.T, d api.Disk, want ...string) {
	t.Helper()
	if got, e := files.Names(d); !slices.Equal(got, want) || e != api.OK {
		t.Errorf("files %q, %d, want %q", got, e, want)
	}
}

// wantTable asks for the entries of a file.
func wantTable(t *testing.T, d api.Disk, name string, want ...api.Entry) {
	t.Helper()
	b, e := files.Get(d, name)
	got, te := table.All(b)
	if e != api.OK || te != api.OK || !slices.Equal(got, want) {
		t.Errorf("%s has %v, errors %d and %d, want %v", name, got, e, te, want)
	}
}

func sameActs(a, b []api.Act) bool {
	return slices.EqualFunc(a, b, func(x, y api.Act) bool {
		return x.Flush == y.Flush && x.Put.Sector == y.Put.Sector && bytes.Equal(x.Put.Data, y.Put.Data)
	})
}

// shortActs is acts as a message tells them.
func shortActs(l []api.Act) string {
	var s []string
	for _, a := range l {
		if a.Flush {
			s = append(s, "flush")
		} else {
			s = append(s, fmt.Sprint(a.Put.Sector))
		}
	}
	return "(" + strings.Join(s, " ") + ")"
}

func wantActs(t *testing.T, what string, got []api.Act, ge api.Errno, want []api.Act, e api.Errno) {
	t.Helper()
	if !sameActs(got, want) || ge != e {
		t.Errorf("%s = %s, %d, want %s, %d", what, shortActs(got), ge, shortActs(want), e)
	}
}

// putting is a disk behind a put.
func putting(t testing.TB, d api.Disk, keep int, l ...api.Change) api.Disk {
	t.Helper()
	acts, _, e := Put(d, l, keep)
	return done(t, d, acts, e)
}

func flushed(t testing.TB, d api.Disk) api.Disk {
	t.Helper()
	acts, e := Flush(d)
	return done(t, d, acts, e)
}

func pressed(t testing.TB, d api.Disk, level, keep int) api.Disk {
	t.Helper()
	acts, e := Press(d, level, keep)
	return done(t, d, acts, e)
}

func TestExamples(t *testing.T) {
	d := formatted(t, 200)
	wantOpen(t, d, 0, api.OK)
	wantLevels(t, d, 0, 0, 0, 0)
	acts, e := Flush(d)
	wantActs(t, "Flush", acts, e, nil, api.OK)
	acts, e = Press(d, 0, 0)
	wantActs(t, "Press", acts, e, nil, api.ErrNone)
	for _, c := range []struct {
		l    []api.Change
		keep int
		e    api.Errno
	}{{nil, 0, api.ErrNone}, {changes(of("a", "x"), of("a", "y")), 0, api.ErrBad}, {changes(of("a", "x")), 1, api.ErrArg}} {
		if acts, n, e := Put(d, c.l, c.keep); acts != nil || n != 0 || e != c.e {
			t.Errorf("Put(%s, %d) = %s, %d, %d, want %d", short(c.l), c.keep, shortActs(acts), n, e, c.e)
		}
	}
	acts, n, e := Put(d, changes(of("a", "x"), of("b", "y")), 0)
	sector := make([]byte, api.Sector)
	copy(sector, "\x01\x00\x00\x00\x01\x00\x00\x00\x00\x00\x00\x00\x00\x01\x0c\x00\x01\x02\x01a\x00\x01x\x01b\x00\x01y")
	wantActs(t, "Put", acts, e, []api.Act{{Put: api.Put{Sector: 17, Data: sector}}, {Flush: true}}, api.OK)
	if n != 1 {
		t.Errorf("the number %d", n)
	}
	d = done(t, d, acts, e)
	wantGet(t, d, "a", 1, "x", true, api.OK)
	wantGet(t, d, "a", 0, "", false, api.OK)
	wantGet(t, d, "a", 2, "", false, api.ErrArg)
	acts, n, e = Put(d, changes(away("a")), 0)
	if n != 2 {
		t.Errorf("the number %d", n)
	}
	d = done(t, d, acts, e)
	wantGet(t, d, "a", 2, "", false, api.OK)
	wantRange(t, d, "", "", 1, changes(of("a", "x"), of("b", "y")), api.OK)
	d = flushed(t, d)
	wantLevels(t, d, 1, 0, 0, 0)
	wantNames(t, d, "l0.1")
	wantTable(t, d, "l0.1", goneAt("a", 2), at("a", "x", 1), at("b", "y", 1))
	d = pressed(t, d, 0, 2)
	wantLevels(t, d, 0, 1, 0, 0)
	wantNames(t, d, "l1.2")
	wantTable(t, d, "l1.2", goneAt("a", 2), at("b", "y", 1))
}

func TestFormat(t *testing.T) {
	for _, count := range []int{math.MinInt, -1, 0, 1, 80, 95, api.MaxSectors + 1, math.MaxInt} {
		if d, e := Format(count); d.Count != 0 || d.Data != nil || d.Waits != nil || e != api.ErrDisk {
			t.Errorf("Format(%d): %d sectors, error %d", count, d.Count, e)
		}
	}
	for _, count := range []int{96, 97, 200, api.MaxSectors} {
		d := formatted(t, count)
		want, _ := files.Format(count)
		copy(want.Data[16*api.Sector:], "\x01")
		if !disk.Same(d, want) || len(d.Waits) != 0 {
			t.Errorf("Format(%d) is another disk", count)
		}
		wantOpen(t, d, 0, api.OK)
		wantLevels(t, d, 0, 0, 0, 0)
		wantRange(t, d, "", "", 0, nil, api.OK)
		wantGet(t, d, "k", 0, "", false, api.OK)
	}
}

// asked is what each call answers first, of a disk that is no tree: all else zero, whatever else is wrong.
func asked(t *testing.T, what string, d api.Disk, want api.Errno) {
	t.Helper()
	tell := func(call string, zero bool, e api.Errno) {
		t.Helper()
		if !zero || e != want {
			t.Errorf("%s: %s: error %d, want %d; all else zero: %t", what, call, e, want, zero)
		}
	}
	n, e := Open(d)
	tell("Open", n == 0, e)
	for _, l := range [][]api.Change{nil, changes(of("a", "x")), changes(of("", ""))} {
		for _, keep := range []int{-1, 0, 1} {
			acts, n, e := Put(d, l, keep)
			tell("Put", acts == nil && n == 0, e)
		}
	}
	for _, seq := range []int{-1, 0, 1} {
		for _, key := range []string{"", "a", chars(api.MaxKey+1, 'k')} {
			v, is, e := Get(d, key, seq)
			tell("Get", v == "" && !is, e)
			l, e := Range(d, key, key, seq)
			tell("Range", l == nil, e)
		}
		for _, level := range []int{-1, 0, 3, 4} {
			acts, e := Press(d, level, seq)
			tell("Press", acts == nil, e)
		}
	}
	acts, e := Flush(d)
	tell("Flush", acts == nil, e)
	l, e := Levels(d)
	tell("Levels", l == nil, e)
}

func TestDisksBelow(t *testing.T) {
	good := formatted(t, 100)
	bad := func(turn func(d *api.Disk)) api.Disk {
		d := api.Disk{Count: good.Count, Data: slices.Clone(good.Data)}
		turn(&d)
		return d
	}
	asked(t, "no disk", api.Disk{}, api.ErrDisk)
	asked(t, "a count below 0", bad(func(d *api.Disk) { d.Count = -1 }), api.ErrDisk)
	asked(t, "a byte too few", bad(func(d *api.Disk) { d.Data = d.Data[1:] }), api.ErrDisk)
	asked(t, "a write of no sector", bad(func(d *api.Disk) { d.Waits = []api.Put{{Sector: 100, Data: make([]byte, 128)}} }), api.ErrDisk)
	asked(t, "a write of 127 bytes", bad(func(d *api.Disk) { d.Waits = []api.Put{{Sector: 90, Data: make([]byte, 127)}} }), api.ErrDisk)
	asked(t, "too many writes", bad(func(d *api.Disk) { d.Waits = make([]api.Put, api.MaxSectors+1) }), api.ErrDisk)
	for _, count := range []int{1, 79, 80, 95, 96, 200} {
		d, _ := disk.New(count)
		asked(t, "noughts", d, api.ErrMount)
	}
	asked(t, "a log, but no files", bad(func(d *api.Disk) { clear(d.Data[:16*api.Sector]) }), api.ErrMount)
	asked(t, "no files, by a write that waits", bad(func(d *api.Disk) { d.Waits = []api.Put{{Sector: 3, Data: make([]byte, 128)}} }), api.ErrMount)
	noLog, _ := files.Format(100)
	asked(t, "files, but no log", noLog, api.ErrLog)
	acts, e := files.Turn(noLog, changes(of("x", "no table")))
	asked(t, "a file that is no table, and no log", done(t, noLog, acts, e), api.ErrLog)
	asked(t, "a head with more behind", bad(func(d *api.Disk) { d.Data[16*api.Sector+100] = 1 }), api.ErrLog)
	asked(t, "no head, by a write that waits", bad(func(d *api.Disk) { d.Waits = []api.Put{{Sector: 16, Data: make([]byte, 128)}} }), api.ErrLog)
}

func TestNamesOfTables(t *testing.T) {
	one := tableOf(t, at("a", "x", 1))
	for _, name := range []string{
		"l0.1", "l1.1", "l2.1", "l3.1", "l0.9", "l0.10", "l3.100", "l0.2147483646", "l0.2147483647", "l3.2147483647", "l1.1000000000",
	} {
		d := laid(t, 100, changes(of(name, one)), nil)
		wantOpen(t, d, 1, api.OK)
		wantGet(t, d, "a", 1, "x", true, api.OK)
		want := make([]int, 4)
		want[name[1]-'0'] = 1
		wantLevels(t, d, want...)
	}
	for _, name := range []string{
		"l4.1", "l9.1", "m0.1", "k0.1", "0.1", "10.1", "l", "l0", "l0.", ".", "l.1", "l0.0", "l0.01", "l0.00", "l0.1.", "l0.1.1", "l0..1", "ll0.1", "l00.1", "l01.1", "l0-1", "l0_1", "l011",
		"l0.-1", "l0.1-", "l0.1_0", "l0._1", "l0.a", "l0.0x1", "l0.1e1", "l-1.1", "la.1", "l_.1", "l-.1", "l..1", "l0.1a", "a",
		"l0.2147483648", "l0.4294967297", "l0.9223372036854775807", "l0.9223372036854775808", "l0.18446744073709551617", "l0.99999999999999999999999999999", "l0.00000000000000000000000000001",
	} {
		asked(t, name, laid(t, 100, changes(of(name, one)), nil), api.ErrTree)
		// Also beside a table that is one.
		wantOpen(t, laid(t, 100, changes(of(name, one), of("l0.7", tableOf(t, at("b", "", 1)))), nil), 0, api.ErrTree)
	}
}

func TestFilesThatAreNoTables(t *testing.T) {
	one := tableOf(t, at("a", "x", 1), at("b", chars(300, 'v'), 2))
	turned := []byte(one)
	turned[3]++
	for _, text := range []string{"", "x", one[1:], one[:len(one)-1], one + "\x00", string(turned), chars(130, 0)} {
		asked(t, fmt.Sprintf("%.20q", text), laid(t, 100, changes(of("l0.1", text)), nil), api.ErrTree)
		wantOpen(t, laid(t, 100, changes(of("l2.5", tableOf(t, at("c", "", 1))), of("l3.4", text)), nil), 0, api.ErrTree)
	}
}

func TestTablesThatAreNoTree(t *testing.T) {
	a1, a2, b1 := tableOf(t, at("a", "x", 1)), tableOf(t, at("a", "x", 2)), tableOf(t, at("b", "x", 1))
	both := tableOf(t, at("a", "y", 1), at("b", "x", 2))
	for i, c := range []struct {
		l []api.Change
		n int
		e api.Errno
	}{
		{changes(of("l0.1", a1), of("l0.2", a2)), 2, api.OK}, {changes(of("l0.1", a1), of("l1.2", b1)), 1, api.OK}, {changes(of("l0.9", a1), of("l0.10", b1)), 1, api.OK},
		{changes(of("l0.1", a1), of("l1.1", a2)), 0, api.ErrTree}, {changes(of("l0.7", a1), of("l1.2", a2), of("l3.7", b1)), 0, api.ErrTree}, // one number
		{changes(of("l2.2147483647", a1), of("l1.2147483647", a2)), 0, api.ErrTree},
		{changes(of("l0.1", a1), of("l0.2", a1)), 0, api.ErrTree}, {changes(of("l0.1", a1), of("l3.2", a1)), 0, api.ErrTree}, // one Key and Seq
		{changes(of("l0.1", a1), of("l3.2", both)), 0, api.ErrTree}, {changes(of("l2.1", both), of("l1.2", b1), of("l0.3", a2), of("l0.4", a1)), 0, api.ErrTree},
		{changes(of("l0.1", tableOf(t, goneAt("a", 1))), of("l0.2", a1)), 0, api.ErrTree},
		{changes(of("l2.1", both), of("l1.2", b1), of("l0.3", a2)), 2, api.OK},
	} {
		d := laid(t, 120, c.l, nil)
		if n, e := Open(d); n != c.n || e != c.e {
			t.Errorf("%d: Open = %d, %d, want %d, %d", i, n, e, c.n, c.e)
		}
		if c.e != api.OK {
			asked(t, fmt.Sprint(i), d, c.e)
		}
	}
}

// records are such of changes at these numbers.
func records(seqs ...int) []string {
	var l []string
	for _, n := range seqs {
		l = append(l, modelRecord{n, changes(of("r", fmt.Sprint(n)))}.text())
	}
	return l
}

func TestRecordsThatAreNoTree(t *testing.T) {
	noTables := []api.Change(nil)
	five := changes(of("l0.1", tableOf(t, at("a", "x", 2), at("b", "x", 5))))
	nought := changes(of("l1.3", tableOf(t, at("a", "x", 0))))
	for i, c := range []struct {
		files   []api.Change
		records []string
		n       int
		e       api.Errno
	}{
		{noTables, records(1), 1, api.OK}, {noTables, records(1, 2, 3), 3, api.OK}, {nought, records(1, 2), 2, api.OK}, {nought, nil, 0, api.OK},
		{noTables, records(2), 0, api.ErrTree}, {noTables, records(2, 3), 0, api.ErrTree}, {noTables, records(end), 0, api.ErrTree}, // not it and one
		{noTables, records(1, 3), 0, api.ErrTree}, {noTables, records(1, 1), 0, api.ErrTree}, {noTables, records(1, 2, 1), 0, api.ErrTree}, {noTables, records(2, 1), 0, api.ErrTree}, // not one by one
		{noTables, records(1, 2, 3, 5), 0, api.ErrTree}, {noTables, records(1, 2, 2, 3), 0, api.ErrTree},
		{five, nil, 5, api.OK}, {five, records(6), 6, api.OK}, {five, records(6, 7), 7, api.OK},
		{five, records(5), 5, api.OK}, {five, records(1, 2, 3, 4, 5), 5, api.OK}, {five, records(4, 5, 6, 7), 7, api.OK}, {five, records(5, 6), 6, api.OK}, // some count for nothing
		{five, records(7), 0, api.ErrTree}, {five, records(8, 9), 0, api.ErrTree}, {five, records(5, 7), 0, api.ErrTree}, {five, records(3, 5), 0, api.ErrTree}, {five, records(3, 5, 6), 0, api.ErrTree},
		{five, records(4), 0, api.ErrTree}, {five, records(1, 2, 3, 4), 0, api.ErrTree}, {five, records(5, 4), 0, api.ErrTree}, {five, records(1), 0, api.ErrTree}, // the last one is below it
		{five, append(records(4, 5), "no record"), 0, api.ErrTree}, {five, append([]string{"no record"}, records(6)...), 0, api.ErrTree},
		{noTables, []string{""}, 0, api.ErrTree}, {noTables, []string{modelRecord{1, nil}.text()}, 0, api.ErrTree}, {noTables, []string{modelRecord{0, changes(of("a", ""))}.text()}, 0, api.ErrTree},
		{noTables, []string{modelRecord{1, changes(of("a", ""), of("a", ""))}.text()}, 0, api.ErrTree}, {noTables, []string{modelRecord{1, numbered(65)}.text()}, 0, api.ErrTree},
		{noTables, []string{records(1)[0] + "\x00"}, 0, api.ErrTree}, {noTables, append(records(1), modelRecord{2, changes(of("", ""))}.text()), 0, api.ErrTree},
		{five, []string{"", records(6)[0]}, 0, api.ErrTree}, {five, append(records(3), modelRecord{4, nil}.text(), records(5)[0]), 0, api.ErrTree}, // also one that would count for nothing
	} {
		d := laid(t, 120, c.files, c.records)
		if n, e := Open(d); n != c.n || e != c.e {
			t.Errorf("%d: Open = %d, %d, want %d, %d", i, n, e, c.n, c.e)
		}
		if c.e != api.OK {
			asked(t, fmt.Sprint(i), d, c.e)
		}
	}
}

func TestOpenByModel(t *testing.T) {
	r := rand.New(rand.NewSource(123))
	trees, others := 0, 0
	for round := range 2500 {
		m, keys := drawTree(r)
		switch r.Intn(5) {
		case 0:
			for i := range m.records {
				m.records[i].seq += r.Intn(2) * r.Intn(2)
			}
		case 1:
			if i := r.Intn(len(m.leaves) + 1); i < len(m.leaves) {
				m.leaves[i].number += r.Intn(3)
			}
		case 2:
			if i := r.Intn(len(m.leaves) + 1); i < len(m.leaves) {
				m.leaves[i].entries = []api.Entry{at(keys[0], "x", r.Intn(6)), at(keys[1], "x", r.Intn(6))}
			}
		case 3:
			if i := r.Intn(len(m.records) + 1); i < len(m.records) {
				m.records = slices.Delete(slices.Clone(m.records), i, min(len(m.records), i+1+r.Intn(2)))
			}
		}
		if len(m.files(t)) > len(uniqueNames(m)) {
			continue // no disk has two files of one name
		}
		n, e := Open(m.on(t, 200))
		want, we := m.number(), api.OK
		if !m.is() {
			want, we = 0, api.ErrTree
		}
		if n != want || e != we {
			t.Fatalf("round %d: Open = %d, %d, want %d, %d: %+v", round, n, e, want, we, m)
		}
		if e == api.OK {
			trees++
		} else {
			others++
		}
	}
	if trees < 500 || others < 250 {
		t.Errorf("%d were trees, %d not: too few to tell", trees, others)
	}
}

func uniqueNames(m modelTree) map[string]bool {
	names := map[string]bool{}
	for _, x := range m.leaves {
		names[modelName(x.level, x.number)] = true
	}
	return names
}

// What is wrong comes up as errors that wrap others: a disk that is no tree tells why.
func TestFaults(t *testing.T) {
	_, err := open(laid(t, 100, changes(of("l0.1", "no table")), nil))
	if !errors.Is(err, api.ErrTree) || !errors.Is(err, api.ErrTable) || errors.Is(err, api.ErrDisk) || numberOf(err) != api.ErrTree {
		t.Errorf("%v", err)
	}
	if text := err.Error(); !strings.Contains(text, "l0.1") {
		t.Errorf("%q does not tell the file", text)
	}
	_, err = open(laid(t, 100, nil, []string{"no record"}))
	if !errors.Is(err, api.ErrTree) || !errors.Is(err, api.ErrBad) || numberOf(err) != api.ErrTree {
		t.Errorf("%v", err)
	}
	if _, err = open(api.Disk{}); !errors.Is(err, api.ErrDisk) || errors.Is(err, api.ErrTree) || numberOf(err) != api.ErrDisk {
		t.Errorf("%v", err)
	}
	if numberOf(nil) != api.OK {
		t.Error("no error has a number")
	}
}
