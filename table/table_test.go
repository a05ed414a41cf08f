package table

import (
	"bytes"
	"fmt"
	"math"
	"slices"
	"strings"
	"testing"

	"docket/api"
)

// short is some entries as a message tells them.
func short(l []api.Entry) string {
	s := fmt.Sprintf("%d: %#v", len(l), l[:min(len(l), 5)])
	return s[:min(len(s), 200)]
}

func wantMake(t *testing.T, l []api.Entry, want []byte, e api.Errno) {
	t.Helper()
	if got, ge := Make(l); !bytes.Equal(got, want) || ge != e {
		t.Errorf("Make(%s) = %d bytes %v, %d, want %d bytes %v, %d", short(l), len(got), got[:min(len(got), 60)], ge, len(want), want[:min(len(want), 60)], e)
	}
}

func wantCheck(t *testing.T, b []byte, e api.Errno) {
	t.Helper()
	if got := Check(b); got != e {
		t.Errorf("Check(%d bytes %v) = %d, want %d", len(b), b[:min(len(b), 60)], got, e)
	}
}

func wantFind(t *testing.T, b []byte, key string, seq int, want api.Entry, is bool, e api.Errno) {
	t.Helper()
	if got, gi, ge := Find(b, key, seq); got != want || gi != is || ge != e {
		t.Errorf("Find(%d bytes, %.20q, %d) = %s, %t, %d, want %s, %t, %d", len(b), key, seq, short(list(got)), gi, ge, short(list(want)), is, e)
	}
}

func wantRange(t *testing.T, b []byte, from, to string, want []api.Entry, e api.Errno) {
	t.Helper()
	if got, ge := Range(b, from, to); !slices.Equal(got, want) || ge != e {
		t.Errorf("Range(%d bytes, %.20q, %.20q) = %s, %d, want %s, %d", len(b), from, to, short(got), ge, short(want), e)
	}
}

func wantAll(t *testing.T, b []byte, want []api.Entry, e api.Errno) {
	t.Helper()
	if got, ge := All(b); !slices.Equal(got, want) || ge != e {
		t.Errorf("All(%d bytes %v) = %s, %d, want %s, %d", len(b), b[:min(len(b), 60)], short(got), ge, short(want), e)
	}
}

func wantEnds(t *testing.T, b []byte, first, last string, e api.Errno) {
	t.Helper()
	if f, l, ge := Ends(b); f != first || l != last || ge != e {
		t.Errorf("Ends(%d bytes) = %.20q, %.20q, %d, want %.20q, %.20q, %d", len(b), f, l, ge, first, last, e)
	}
}

func wantPages(t *testing.T, b []byte, want int, e api.Errno) {
	t.Helper()
	if got, ge := Pages(b); got != want || ge != e {
		t.Errorf("Pages(%d bytes) = %d, %d, want %d, %d", len(b), got, ge, want, e)
	}
}

// wantTable asks for the table b of entries, and for all that it tells of itself.
func wantTable(t *testing.T, l []api.Entry, b []byte) {
	t.Helper()
	wantMake(t, l, b, api.OK)
	wantCheck(t, b, api.OK)
	wantAll(t, b, l, api.OK)
	wantEnds(t, b, l[0].Key, l[len(l)-1].Key, api.OK)
	wantPages(t, b, len(modelParts(l)), api.OK)
}

// wantNone asks all that read a table for ErrTable, whatever else they are handed.
func wantNone(t *testing.T, b []byte) {
	t.Helper()
	wantCheck(t, b, api.ErrTable)
	wantAll(t, b, nil, api.ErrTable)
	wantEnds(t, b, "", "", api.ErrTable)
	wantPages(t, b, 0, api.ErrTable)
	long := chars(api.MaxKey+1, 'a')
	wantFind(t, b, "a", 1, api.Entry{}, false, api.ErrTable)
	wantFind(t, b, "", -1, api.Entry{}, false, api.ErrTable)
	wantFind(t, b, long, 1<<31, api.Entry{}, false, api.ErrTable)
	wantRange(t, b, "", "", nil, api.ErrTable)
	wantRange(t, b, long, long, nil, api.ErrTable)
}

// made is the table of entries that have one, as the model has it.
func made(t *testing.T, l []api.Entry) []byte {
	t.Helper()
	b, e := modelMake(l)
	if e != api.OK {
		t.Fatalf("the model's table of %s: error %d", short(l), e)
	}
	return b
}

func TestExamples(t *testing.T) {
	l := list(put("a", "", 2), put("a", "", 1), taken("b", 3))
	b, e := Make(l)
	if e != api.OK {
		t.Fatal(e)
	}
	wantFind(t, b, "a", 9, l[0], true, api.OK)
	wantFind(t, b, "a", 1, l[1], true, api.OK)
	wantFind(t, b, "a", 0, api.Entry{}, false, api.OK)
	wantFind(t, b, "b", 3, l[2], true, api.OK)
	wantRange(t, b, "a", "b", l[:2], api.OK)
	wantRange(t, b, "b", "", l[2:], api.OK)
	wantEnds(t, b, "a", "b", api.OK)
	wantPages(t, b, 1, api.OK)
	wantMake(t, nil, nil, api.ErrTable)
	wantCheck(t, nil, api.ErrTable)
	wantFind(t, b, "", 1, api.Entry{}, false, api.ErrKey)
	wantFind(t, b, "a", -1, api.Entry{}, false, api.ErrArg)
}

// A table byte by byte; its page, its sieve and both sums were worked out beside the program.
func TestBytesOfATable(t *testing.T) {
	wantTable(t, list(put("a", "", 0)), []byte{
		1, 0, 1, 'a', 0, 0, 0, 0x1c, 0x6d, 0xe1, 0x85,
		1, 1, 'a', 1, 'a', 11,
		0x0f, 0,
		11, 0, 0, 0, 0, 0, 0, 0, 6, 0, 0, 0, 0, 0, 0, 0, 2, 0, 0, 0, 0, 0, 0, 0,
		0xee, 0xa4, 0xdb, 0x0e,
	})
}

// some are lists of entries that have a table.
func some() [][]api.Entry {
	k, v := chars(api.MaxKey, 'k'), chars(api.MaxValue, 'v')
	return [][]api.Entry{
		list(put("a", "", 0)),
		list(taken("\x00", last)),
		list(put("\xff", "\x00\xff", 127), taken("\xff\xff", 128)),
		list(put("a", "", 0), put("ab", "", 0), put("abc", "", 0), put("b", "", 0)),
		list(put("a", "new", 300), taken("a", 128), put("a", "old", 127), put("a\x00", "\x00\xff", last), taken("\xff", 0)),
		list(put(k[1:], v[1:], 2), put(k, v, 1), taken(k, 0)),
		list(put("a", v, 9), put("a", v[:600], 4), taken("a", 3), put("b", "", 3)),
		list(put("a", v, 1), put("b", v, 1), put("c", v, 1)),
		numbered(10, 3), numbered(100, 30), numbered(60, 600),
		falling("same", 300),
		slices.Concat(list(put("r", "x", 5)), falling("s", 200), list(put("t", "", 1))),
	}
}

func TestTables(t *testing.T) {
	one, several := 0, 0
	for _, l := range some() {
		wantTable(t, l, made(t, l))
		if len(modelParts(l)) == 1 {
			one++
		} else {
			several++
		}
	}
	if one < 5 || several < 5 {
		t.Errorf("%d of one page, %d of several", one, several)
	}
}

// With its last entry a page has one byte less than PageSize, as many, one more: it goes on, or it is closed.
func TestWhereAPageIsClosed(t *testing.T) {
	for _, c := range []struct {
		l     []api.Entry
		parts []int
	}{
		{list(put("a", chars(498, 'v'), 0)), []int{1}},
		{list(put("a", chars(499, 'v'), 0)), []int{1}},
		{list(put("a", chars(500, 'v'), 0)), []int{1}},
		{list(put("a", chars(501, 'v'), 0)), []int{1}},
		{list(put("a", chars(499, 'v'), 0), taken("b", 0)), []int{2}},
		{list(put("a", chars(500, 'v'), 0), taken("b", 0)), []int{1, 1}},
		{list(put("a", chars(501, 'v'), 0), taken("b", 0)), []int{1, 1}},
		{list(put("a", chars(499, 'v'), 0), taken("b", 0), taken("c", 0)), []int{2, 1}},
		{list(put("a", chars(494, 'v'), 0), taken("b", 0), taken("c", 0)), []int{3}},
		{list(put("a", chars(495, 'v'), 0), taken("b", 0), taken("c", 0)), []int{2, 1}},
		{list(put("a", chars(496, 'v'), 0), taken("b", 0), taken("c", 0)), []int{2, 1}},
		{list(put("a", chars(500, 'v'), 0), put("b", chars(499, 'v'), 0), put("c", chars(4096, 'v'), 0), put("d", chars(501, 'v'), 0), taken("e", 0)), []int{1, 2, 1, 1}},
	} {
		var parts [][]api.Entry
		rest := c.l
		for _, n := range c.parts {
			parts = append(parts, rest[:n])
			rest = rest[n:]
		}
		b := draftOf(parts...).bytes()
		wantTable(t, c.l, b)
		wantPages(t, b, len(c.parts), api.OK)
	}
	for n, want := range map[int]int{498: 510, 499: 511, 500: 512, 501: 513} {
		if got := len(modelPage(list(put("a", chars(n, 'v'), 0)))); got != want {
			t.Errorf("with a value of %d bytes the page has %d", n, got)
		}
	}
}

func TestHowManyEntries(t *testing.T) {
	wantMake(t, nil, nil, api.ErrTable)
	wantMake(t, []api.Entry{}, nil, api.ErrTable)
	for _, l := range [][]api.Entry{numbered(api.MaxEntries-1, 1), numbered(api.MaxEntries, 0), falling("k", api.MaxEntries)} {
		wantTable(t, l, made(t, l))
	}
	wantMake(t, numbered(api.MaxEntries+1, 0), nil, api.ErrMany)
	wantMake(t, make([]api.Entry, api.MaxEntries+1), nil, api.ErrMany)
	wantNone(t, draftOf(modelParts(numbered(api.MaxEntries+1, 0))...).bytes())
}

// The sieve has ten bits an entry, and as many more as fill its last byte.
func TestBitsOfTheSieve(t *testing.T) {
	for n, want := range map[int]int{1: 2, 2: 3, 3: 4, 4: 5, 5: 7, 6: 8, 7: 9, 8: 10, 9: 12, 100: 125} {
		l := numbered(n, 0)
		b, e := Make(l)
		if e != api.OK {
			t.Fatal(e)
		}
		if got := int(b[len(b)-12]); got != want {
			t.Errorf("the sieve of %d entries has %d bytes, want %d", n, got, want)
		}
		wantTable(t, l, made(t, l))
	}
}

func TestHowManyBytes(t *testing.T) {
	for _, n := range []int{most - 1, most} {
		l := sized(n)
		b := made(t, l)
		if len(b) != n {
			t.Fatalf("%d bytes, not %d", len(b), n)
		}
		wantTable(t, l, b)
		wantFind(t, b, l[0].Key, last, l[0], true, api.OK)
	}
	for _, n := range []int{most + 1, most + 2, most + 1000} {
		l := sized(n)
		b := draftOf(modelParts(l)...).bytes()
		if len(b) != n {
			t.Fatalf("%d bytes, not %d", len(b), n)
		}
		wantMake(t, l, nil, api.ErrCap)
		wantNone(t, b)
	}
	// The pages alone are too many bytes, by far.
	wantMake(t, numbered(api.MaxEntries, api.MaxValue), nil, api.ErrCap)
	wantMake(t, numbered(128, api.MaxValue), nil, api.ErrCap)
}

// wrong are entries of key each of which has one error alone.
func wrong(key string) map[api.Errno][]api.Entry {
	return map[api.Errno][]api.Entry{
		api.ErrKey:  {{}, put("", "x", 1), put(key+chars(api.MaxKey+1-len(key), 'k'), "x", 1)},
		api.ErrText: {put(key, chars(api.MaxValue+1, 'v'), 0)},
		api.ErrArg:  {put(key, "", -1), taken(key, last+1), put(key, "", 1<<32), put(key, "", math.MinInt), put(key, "", math.MaxInt)},
		api.ErrBad:  {{Key: key, Value: "x", Gone: true}},
	}
}

// What page.Check refuses, anywhere in the list, is told ahead of a cap.
func TestEntriesThatMayNotBe(t *testing.T) {
	for e, l := range wrong("z") {
		for _, x := range l {
			wantMake(t, list(x), nil, e)
			wantMake(t, append(numbered(50, 100), x), nil, e)
			wantMake(t, append(numbered(200, api.MaxValue), x), nil, e)
			// Of what is Gone no value is written: there is no page that would tell one.
			if e != api.ErrBad {
				wantNone(t, draftOf(list(x)).bytes())
				wantNone(t, draftOf(modelParts(append(numbered(50, 100), x))...).bytes())
			}
		}
	}
	up := list(put("a", "", 1), put("a", "", 2))
	same := list(put("a", "x", 1), taken("a", 1))
	back := list(put("b", "", 1), put("a", "", 1))
	for _, l := range [][]api.Entry{up, same, back} {
		wantMake(t, l, nil, api.ErrOrder)
		wantMake(t, append(numbered(200, api.MaxValue), l...), nil, api.ErrOrder)
		wantNone(t, draftOf(l).bytes())
	}
	// The first of two is told.
	wantMake(t, list(put("b", "", -1), put("a", chars(api.MaxValue+1, 'v'), 1)), nil, api.ErrArg)
	wantMake(t, list(put("b", "", 1), put("a", "", 1), put("", "", 1)), nil, api.ErrOrder)
}

func TestErrorsOfFind(t *testing.T) {
	l := list(put("a", "x", last), put(chars(api.MaxKey, 'k'), "", 0))
	b := made(t, l)
	for _, key := range []string{"", chars(api.MaxKey+1, 'k'), chars(1<<16, 0)} {
		for _, seq := range []int{0, 1, last, -1, 1 << 31, math.MinInt, math.MaxInt} {
			wantFind(t, b, key, seq, api.Entry{}, false, api.ErrKey)
		}
	}
	for _, key := range []string{"a", "b", "\x00", chars(api.MaxKey, 'k')} {
		for _, seq := range []int{-1, last + 1, 1 << 32, math.MinInt, math.MaxInt} {
			wantFind(t, b, key, seq, api.Entry{}, false, api.ErrArg)
		}
	}
	wantFind(t, b, "a", last, l[0], true, api.OK)
	wantFind(t, b, "a", last-1, api.Entry{}, false, api.OK)
	wantFind(t, b, chars(api.MaxKey, 'k'), 0, l[1], true, api.OK)
}

// wantFound asks for each key of a table, and for some around them, at many numbers.
func wantFound(t *testing.T, l []api.Entry, b []byte) {
	t.Helper()
	step := max(1, len(l)/12)
	for i := 0; i < len(l); i += step {
		x := l[i]
		for _, key := range []string{x.Key, x.Key[:len(x.Key)-1], x.Key + "\x00", x.Key + "\xff", "\x00", "\xff\xff\xff"} {
			if len(key) < 1 || len(key) > api.MaxKey {
				continue
			}
			for _, seq := range []int{0, x.Seq - 1, x.Seq, x.Seq + 1, last} {
				if seq < 0 || seq > last {
					continue
				}
				want, is := modelFind(l, key, seq)
				wantFind(t, b, key, seq, want, is, api.OK)
			}
		}
	}
}

func TestFind(t *testing.T) {
	for _, l := range some() {
		wantFound(t, l, made(t, l))
	}
	l := list(put("b", "2", 20), taken("b", 10), put("b", "1", 5), put("d", "", 7))
	b := made(t, l)
	for _, c := range []struct {
		key  string
		seq  int
		want int
	}{
		{"b", 0, -1}, {"b", 4, -1}, {"b", 5, 2}, {"b", 6, 2}, {"b", 9, 2}, {"b", 10, 1}, {"b", 19, 1}, {"b", 20, 0}, {"b", 21, 0}, {"b", last, 0},
		{"a", 99, -1}, {"c", 99, -1}, {"d", 6, -1}, {"d", 7, 3}, {"e", 99, -1}, {"b\x00", 99, -1}, {"bb", 99, -1}, {"\xff", 99, -1},
	} {
		if c.want < 0 {
			wantFind(t, b, c.key, c.seq, api.Entry{}, false, api.OK)
		} else {
			wantFind(t, b, c.key, c.seq, l[c.want], true, api.OK)
		}
	}
}

// One key has entries on several pages; the one that is asked for stands on any of them.
func TestFindOverTheEndOfAPage(t *testing.T) {
	l := slices.Concat(list(put("r", "x", 5)), falling("s", 400), list(put("t", "", 1)))
	parts := modelParts(l)
	if len(parts) < 4 || parts[1][0].Key != "s" || parts[2][0].Key != "s" {
		t.Fatalf("only %d pages", len(parts))
	}
	b := made(t, l)
	for _, p := range parts {
		for _, x := range []api.Entry{p[0], p[len(p)-1]} {
			wantFind(t, b, x.Key, x.Seq, x, true, api.OK)
		}
	}
	wantFind(t, b, "t", 0, api.Entry{}, false, api.OK)
	// Between the last of one page and the first of the next one.
	v := chars(600, 'v')
	l = list(put("s", v, 30), put("s", v, 20), put("s", v, 10), put("t", v, 1))
	b = made(t, l)
	for seq, at := range map[int]int{30: 0, 29: 1, 20: 1, 19: 2, 10: 2} {
		wantFind(t, b, "s", seq, l[at], true, api.OK)
	}
	wantFind(t, b, "s", 9, api.Entry{}, false, api.OK)
}

func TestRange(t *testing.T) {
	k := chars(api.MaxKey, 'k')
	for _, l := range some() {
		b := made(t, l)
		keys := []string{"", "\x00", "\xff\xff\xff", "key00005", "s", k, k[1:], chars(api.MaxKey, 0), chars(api.MaxKey, 255)}
		for i := 0; i < len(l); i += max(1, len(l)/5) {
			if key := l[i].Key; len(key) < api.MaxKey {
				keys = append(keys, key, key[:len(key)-1], key+"\x00")
			}
		}
		for _, from := range keys {
			for _, to := range keys {
				wantRange(t, b, from, to, modelRange(l, from, to), api.OK)
			}
		}
	}
	l := numbered(100, 30)
	b := made(t, l)
	wantRange(t, b, "", "", l, api.OK)
	wantRange(t, b, "key00010", "key00015", l[10:15], api.OK)
	wantRange(t, b, "key00010", "key00090", l[10:90], api.OK)
	wantRange(t, b, "key00010", "key00010", nil, api.OK)
	wantRange(t, b, "key00010", "key00010\x00", l[10:11], api.OK)
	wantRange(t, b, "key00015", "key00010", nil, api.OK)
	wantRange(t, b, "", "key00001", l[:1], api.OK)
	wantRange(t, b, "", "key00000", nil, api.OK)
	wantRange(t, b, "key00099", "", l[99:], api.OK)
	wantRange(t, b, "key00099\x00", "", nil, api.OK)
	wantRange(t, b, "a", "z", l, api.OK)
}

func TestErrorsOfRange(t *testing.T) {
	l := list(put("a", "", 1), put(chars(api.MaxKey, 'k'), "", 0))
	b := made(t, l)
	for _, long := range []string{chars(api.MaxKey+1, 'k'), chars(1<<16, 0)} {
		for _, other := range []string{"", "a", long} {
			wantRange(t, b, long, other, nil, api.ErrText)
			wantRange(t, b, other, long, nil, api.ErrText)
		}
	}
	wantRange(t, b, chars(api.MaxKey, 'k'), "", l[1:], api.OK)
	wantRange(t, b, "", chars(api.MaxKey, 'k'), l[:1], api.OK)
}

func TestEnds(t *testing.T) {
	k := chars(api.MaxKey, 0)
	for _, c := range []struct {
		l           []api.Entry
		first, last string
	}{
		{list(put("a", "", 0)), "a", "a"},
		{list(put("a", "", 2), put("a", "", 1)), "a", "a"},
		{list(put(k, "", 0), taken("\xff", 1)), k, "\xff"},
		{numbered(100, 100), "key00000", "key00099"},
	} {
		wantEnds(t, made(t, c.l), c.first, c.last, api.OK)
	}
}

func TestFewBytes(t *testing.T) {
	b := made(t, list(put("a", "", 0)))
	for n := range len(b) {
		wantNone(t, b[:n])
		wantNone(t, b[len(b)-n:])
	}
	for n := range 40 {
		wantNone(t, make([]byte, n))
		wantNone(t, sealed(make([]byte, n)))
	}
	wantNone(t, []byte(strings.Repeat("docket", 100)))
}

// Nothing is a table of no entries.
func TestNoEntries(t *testing.T) {
	none := modelPage(nil)
	for _, sieve := range [][]byte{nil, {0}, {255}, {0, 0}} {
		wantNone(t, whole(nil, nil, sieve))
		wantNone(t, whole(nil, indexOf(0), sieve))
		wantNone(t, whole(none, indexOf(0), sieve))
		wantNone(t, whole(none, indexOf(1, spot{"", "", len(none)}), sieve))
		wantNone(t, whole(nil, indexOf(1, spot{"", "", 0}), sieve))
	}
}

func TestOtherSums(t *testing.T) {
	for _, l := range some() {
		b := made(t, l)
		end := len(b) - 4
		zero := slices.Clone(b)
		clear(zero[end:])
		// As a sum over all but the lengths would be.
		short := append(slices.Clone(b[:end]), sealed(b[:len(b)-28])[len(b)-28:]...)
		turned := slices.Clone(b)
		slices.Reverse(turned[end:])
		for _, c := range [][]byte{zero, short, turned, b[:end], sealed(b)} {
			wantNone(t, c)
		}
	}
}

func TestOtherLengths(t *testing.T) {
	for _, l := range [][]api.Entry{list(put("a", "", 0)), numbered(60, 30)} {
		d := draftOf(modelParts(l)...)
		inner, index := slices.Concat(d.pages...), d.index()
		b := slices.Concat(inner, index, d.sieve)
		p, i, s := len(inner), len(index), len(d.sieve)
		wantCheck(t, ended(b, p, i, s), api.OK)
		for _, by := range []int{-p, -i, -s, -128, -1, 1, 2, 128, 256, 1 << 31, 1 << 32, 1 << 62, math.MinInt, math.MaxInt, -1 - p} {
			wantNone(t, ended(b, p+by, i, s))
			wantNone(t, ended(b, p, i+by, s))
			wantNone(t, ended(b, p, i, s+by))
			// These come to the whole again.
			wantNone(t, ended(b, p+by, i-by, s))
			wantNone(t, ended(b, p, i+by, s-by))
			wantNone(t, ended(b, p+by, i, s-by))
		}
		wantNone(t, ended(b, i, p, s))
		wantNone(t, ended(b, p, s, i))
		wantNone(t, ended(b, 0, 0, 0))
		wantNone(t, ended(b, len(b), 0, 0))
		wantNone(t, ended(b, len(b), len(b), len(b)))
	}
}

// A byte more at any of the parts' ends, counted as this one's, that one's, or nobody's.
func TestBytesBetweenTheParts(t *testing.T) {
	for _, l := range [][]api.Entry{list(put("a", "", 0)), numbered(60, 30)} {
		d := draftOf(modelParts(l)...)
		inner, index, sieve := slices.Concat(d.pages...), d.index(), d.sieve
		for _, c := range []byte{0, 1, 255} {
			x := []byte{c}
			p, i, s := len(inner), len(index), len(sieve)
			for _, b := range [][]byte{slices.Concat(x, inner, index, sieve), slices.Concat(inner, x, index, sieve), slices.Concat(inner, index, x, sieve), slices.Concat(inner, index, sieve, x)} {
				wantNone(t, ended(b, p, i, s))
				wantNone(t, ended(b, p+1, i, s))
				wantNone(t, ended(b, p, i+1, s))
				wantNone(t, ended(b, p, i, s+1))
			}
			wantNone(t, append(x, d.bytes()...))
			wantNone(t, append(d.bytes(), c))
		}
		wantNone(t, ended(slices.Concat(inner[1:], index, sieve), len(inner)-1, len(index), len(sieve)))
		wantNone(t, append(d.bytes(), d.bytes()...))
	}
}

func TestPagesThatAreNone(t *testing.T) {
	l := numbered(60, 30)
	for at := range modelParts(l) {
		for _, turn := range []func(p []byte){
			func(p []byte) { p[0]++ },
			func(p []byte) { p[len(p)-1]++ },
			func(p []byte) { p[len(p)/2] ^= 128 },
			func(p []byte) { clear(p) },
		} {
			d := draftOf(modelParts(l)...)
			turn(d.pages[at])
			wantNone(t, d.bytes())
		}
	}
}

func TestPartedElsewhere(t *testing.T) {
	l := numbered(60, 30)
	right := modelParts(l)
	wantCheck(t, draftOf(right...).bytes(), api.OK)
	wantNone(t, draftOf(l).bytes())
	wantNone(t, draftOf(l[:30], l[30:]).bytes())
	var single [][]api.Entry
	for i := range l {
		single = append(single, l[i:i+1])
	}
	wantNone(t, draftOf(single...).bytes())
	// One end is an entry sooner, or later; the others stand as they are, or as they must behind it.
	for i := range len(right) - 1 {
		n := len(slices.Concat(right[:i+1]...))
		for _, end := range []int{n - 1, n + 1} {
			stay := slices.Clone(right)
			from := n - len(right[i])
			stay[i] = l[from:end]
			stay[i+1] = l[end : n+len(right[i+1])]
			wantNone(t, draftOf(stay...).bytes())
			wantNone(t, draftOf(slices.Concat(right[:i], [][]api.Entry{l[from:end]}, modelParts(l[end:]))...).bytes())
		}
		wantNone(t, draftOf(slices.Concat(right[:i], [][]api.Entry{slices.Concat(right[i], right[i+1])}, right[i+2:])...).bytes())
	}
	// A page of no entries, anywhere.
	for i := range len(right) + 1 {
		wantNone(t, draftOf(slices.Concat(right[:i], [][]api.Entry{nil}, right[i:])...).bytes())
	}
	full := list(put("a", chars(500, 'v'), 0))
	wantCheck(t, draftOf(full).bytes(), api.OK)
	wantNone(t, draftOf(full, nil).bytes())
	wantNone(t, draftOf(nil, full).bytes())
	// The last page goes on behind the entry with which it has PageSize bytes.
	wantNone(t, draftOf(append(full, taken("b", 0))).bytes())
	// A page is closed with one byte less than it must have.
	two := list(put("a", chars(499, 'v'), 0), taken("b", 0))
	wantNone(t, draftOf(two[:1], two[1:]).bytes())
	two = list(put("a", "", 0), put("b", "", 0))
	wantNone(t, draftOf(two[:1], two[1:]).bytes())
}

func TestOtherIndexes(t *testing.T) {
	for _, l := range [][]api.Entry{list(put("b", "", 0)), list(put("b", "", 0), put("c", "", 0)), numbered(60, 30)} {
		d := draftOf(modelParts(l)...)
		with := func(index []byte) []byte { return whole(slices.Concat(d.pages...), index, d.sieve) }
		wantCheck(t, with(d.index()), api.OK)
		n := len(d.spots)
		for _, many := range []int{0, n - 1, n + 1, 2 * n, 1 << 20, math.MaxInt, -1} {
			wantNone(t, with(indexOf(many, d.spots...)))
		}
		for at, was := range d.spots {
			for _, s := range []spot{
				{"a", was.last, was.size}, {was.first + "\x00", was.last, was.size}, {"", was.last, was.size}, {"z", was.last, was.size}, {chars(257, 'b'), was.last, was.size},
				{was.first, "a", was.size}, {was.first, was.last + "\x00", was.size}, {was.first, "", was.size}, {was.first, "z", was.size}, {was.first, chars(257, 'b'), was.size},
				{was.first, was.last, was.size + 1}, {was.first, was.last, was.size - 1}, {was.first, was.last, 0}, {was.first, was.last, 1 << 40}, {was.first, was.last, -1},
				{was.first + "z", was.last + "z", was.size}, {},
			} {
				spots := slices.Clone(d.spots)
				spots[at] = s
				wantNone(t, with(indexOf(n, spots...)))
			}
			wantNone(t, with(indexOf(n-1, slices.Delete(slices.Clone(d.spots), at, at+1)...)))
			wantNone(t, with(indexOf(n, slices.Delete(slices.Clone(d.spots), at, at+1)...)))
			wantNone(t, with(indexOf(n+1, slices.Insert(slices.Clone(d.spots), at, was)...)))
			wantNone(t, with(indexOf(n+1, slices.Insert(slices.Clone(d.spots), at, spot{})...)))
		}
		index := d.index()
		for i := range index {
			wantNone(t, with(index[:i]))
			wantNone(t, with(slices.Insert(slices.Clone(index), i, 128)))
		}
		// The count in two bytes, as no number is written.
		wantNone(t, with(append([]byte{index[0] | 128, 0}, index[1:]...)))
		wantNone(t, with(append([]byte{255, 255, 255, 255, 255, 255, 255, 255, 255, 1}, index[1:]...)))
	}
	// Two neighbours tell lengths of which one is too great and one too small.
	d := draftOf(modelParts(numbered(60, 30))...)
	d.spots[0].size++
	d.spots[1].size--
	wantNone(t, d.bytes())
}

func TestOtherSieves(t *testing.T) {
	for _, l := range [][]api.Entry{list(put("a", "", 0)), list(put("a", "", 2), put("a", "", 1), taken("b", 3)), numbered(60, 30)} {
		d := draftOf(modelParts(l)...)
		right := d.sieve
		many := 8 * len(right)
		for _, sieve := range [][]byte{
			nil, make([]byte, len(right)), bytes.Repeat([]byte{255}, len(right)),
			modelSieve(l, many+8), modelSieve(l, 2*many), append(slices.Clone(right), 0), right[:len(right)-1], right[1:],
			modelSieve(append(l, put("more", "", 1)), many),
		} {
			if slices.Equal(sieve, right) {
				continue
			}
			d.sieve = sieve
			wantNone(t, d.bytes())
		}
		for n := range many {
			d.sieve = slices.Clone(right)
			d.sieve[n/8] ^= 1 << (n % 8)
			wantCheck(t, d.bytes(), api.ErrTable)
		}
	}
}

func TestNeighboursThatDoNotRise(t *testing.T) {
	v := chars(600, 'v')
	for _, c := range []struct {
		l []api.Entry
		e api.Errno
	}{
		{list(put("a", v, 1), put("b", v, 1)), api.OK},
		{list(put("b", v, 1), put("a", v, 1)), api.ErrTable},
		{list(put("a", v, 2), put("a", v, 1)), api.OK},
		{list(put("a", v, 1), put("a", v, 2)), api.ErrTable},
		{list(put("a", v, 1), put("a", v, 1)), api.ErrTable},
		{list(put("a", v, 1), put("a", "", 1)), api.ErrTable},
		{list(put("a", v, 1), taken("a", 1)), api.ErrTable},
		{list(put("a", v, 1), put("c", v, 1), put("b", v, 1)), api.ErrTable},
		{list(put("a\x00", v, 1), put("a", v, 0)), api.ErrTable},
		{list(put("\x80", v, 1), put("\x7f", v, 0)), api.ErrTable},
	} {
		b := draftOf(modelParts(c.l)...).bytes()
		if n := len(modelParts(c.l)); n < 2 {
			t.Errorf("%s: %d page", short(c.l), n)
		}
		if c.e == api.OK {
			wantTable(t, c.l, b)
		} else {
			wantNone(t, b)
		}
	}
	parts := modelParts(numbered(60, 30))
	swapped := slices.Clone(parts)
	swapped[0], swapped[1] = swapped[1], swapped[0]
	wantNone(t, draftOf(swapped...).bytes())
	wantNone(t, draftOf(append([][]api.Entry{parts[0]}, parts...)...).bytes())
}
