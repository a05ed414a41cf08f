package tree

import (
	"fmt"
	"math"
	"math/rand"
	"slices"
	"strings"
	"testing"

	"docket/api"
)

func of(key, value string) api.Change { return api.Change{Key: key, Value: value} }

func away(key string) api.Change { return api.Change{Key: key, Gone: true} }

func changes(l ...api.Change) []api.Change { return l }

func chars(n int, c byte) string { return strings.Repeat(string([]byte{c}), n) }

// numbered are so many changes, each with a key of its own.
func numbered(n int) []api.Change {
	var l []api.Change
	for i := range n {
		l = append(l, of(fmt.Sprintf("key%04d", i), "v"))
	}
	return l
}

// short is some changes as a message tells them.
func short(l []api.Change) string {
	s := fmt.Sprintf("%d: %#v", len(l), l[:min(len(l), 4)])
	return s[:min(len(s), 200)]
}

func wantWrite(t *testing.T, l []api.Change, seq int, want string, e api.Errno) {
	t.Helper()
	if got, ge := Write(l, seq); got != want || ge != e {
		t.Errorf("Write(%s, %d) = %.80q (%d bytes), %d, want %.80q (%d bytes), %d", short(l), seq, got, len(got), ge, want, len(want), e)
	}
}

func wantRead(t *testing.T, record string, want []api.Change, seq int, e api.Errno) {
	t.Helper()
	if got, gs, ge := Read(record); !slices.Equal(got, want) || gs != seq || ge != e {
		t.Errorf("Read(%.80q) = %s, %d, %d, want %s, %d, %d", record, short(got), gs, ge, short(want), seq, e)
	}
}

// wantBoth asks that the record of changes is such bytes, and that they are read back.
func wantBoth(t *testing.T, l []api.Change, seq int, record string) {
	t.Helper()
	wantWrite(t, l, seq, record, api.OK)
	wantRead(t, record, l, seq, api.OK)
}

func TestRecord(t *testing.T) {
	wantBoth(t, changes(of("a", "x")), 1, "\x01\x01\x01a\x00\x01x")
	wantBoth(t, changes(of("a", "")), 127, "\x7f\x01\x01a\x00\x00")
	wantBoth(t, changes(away("a")), 128, "\x80\x01\x01\x01a\x01")
	wantBoth(t, changes(of("b", "xy"), away("\x00\xff"), of("a", "")), 300, "\xac\x02\x03\x01b\x00\x02xy\x02\x00\xff\x01\x01a\x00\x00")
	wantBoth(t, changes(of("\x00", "\x01"), of("\xff", "\x00\xff")), end, "\xff\xff\xff\xff\x07\x02\x01\x00\x00\x01\x01\x01\xff\x00\x02\x00\xff")
	// Their order is theirs alone: a record keeps it.
	wantBoth(t, changes(of("a", ""), of("b", "")), 2, "\x02\x02\x01a\x00\x00\x01b\x00\x00")
	wantBoth(t, changes(of("b", ""), of("a", "")), 2, "\x02\x02\x01b\x00\x00\x01a\x00\x00")
}

func TestRecordAtTheEdges(t *testing.T) {
	for _, n := range []int{1, 2, api.MaxFresh} {
		wantBoth(t, numbered(n), 7, modelRecord{7, numbered(n)}.text())
	}
	for _, n := range []int{1, 127, 128, api.MaxKey} {
		for _, c := range []byte{0, 'k', 255} {
			l := changes(of(chars(n, c), "v"), away(chars(n, c)[1:]+"!"))
			wantBoth(t, l, 7, modelRecord{7, l}.text())
		}
	}
	for _, n := range []int{0, 1, 127, 128, 4000, 4088, 4089} {
		l := changes(of("k", chars(n, 'v')))
		wantBoth(t, l, 7, modelRecord{7, l}.text())
	}
	for _, seq := range []int{1, 127, 128, 1<<14 - 1, 1 << 14, 1 << 28, end - 1, end} {
		wantBoth(t, changes(away("k")), seq, modelRecord{seq, changes(away("k"))}.text())
	}
}

func TestRecordIsNotTooLong(t *testing.T) {
	// Seven bytes stand ahead of the value: number, count, two of the key, the nought, two of the value's length.
	full := changes(of("k", chars(api.MaxRecord-7, 'v')))
	text := modelRecord{1, full}.text()
	if len(text) != api.MaxRecord {
		t.Fatalf("%d bytes", len(text))
	}
	wantBoth(t, full, 1, text)
	wantWrite(t, full, 128, "", api.ErrText) // one byte more of the number
	wantWrite(t, changes(of("kk", full[0].Value)), 1, "", api.ErrText)
	wantWrite(t, changes(of("k", full[0].Value+"v")), 1, "", api.ErrText)
	wantRead(t, modelRecord{128, full}.text(), nil, 0, api.ErrBad)
	wantRead(t, modelRecord{1, changes(of("k", full[0].Value+"v"))}.text(), nil, 0, api.ErrBad)
	// Each one may be, all together are too long.
	var l []api.Change
	for i := range 20 {
		l = append(l, of(chars(api.MaxKey, byte('a'+i)), ""))
	}
	wantWrite(t, l, 1, "", api.ErrText)
	wantBoth(t, l[:15], 1, modelRecord{1, l[:15]}.text())
	wantRead(t, modelRecord{1, l}.text(), nil, 0, api.ErrBad)
}

func TestWriteErrors(t *testing.T) {
	long, tooMany := of("k", chars(api.MaxValue+1, 'v')), numbered(api.MaxFresh+1)
	badGone := api.Change{Key: "g", Value: "v", Gone: true}
	far := append(numbered(api.MaxFresh-1), of("key0000", "w"))
	for i, c := range []struct {
		l   []api.Change
		seq int
		e   api.Errno
	}{
		{changes(of("a", "")), 0, api.ErrArg}, {changes(of("a", "")), -1, api.ErrArg}, {changes(of("a", "")), end + 1, api.ErrArg},
		{changes(of("a", "")), math.MaxInt, api.ErrArg}, {changes(of("a", "")), math.MinInt, api.ErrArg}, {changes(of("a", "")), 1<<32 + 1, api.ErrArg},
		{tooMany, 1, api.ErrMany}, {nil, 1, api.ErrNone}, {changes(), 1, api.ErrNone},
		{changes(of("", "")), 1, api.ErrKey}, {changes(away("")), 1, api.ErrKey}, {changes(of(chars(api.MaxKey+1, 'k'), "")), 1, api.ErrKey},
		{changes(long), 1, api.ErrText}, {changes(of("k", chars(api.MaxValue, 'v'))), 1, api.ErrText},
		{changes(badGone), 1, api.ErrBad}, {changes(of("a", "x"), of("a", "y")), 1, api.ErrBad}, {changes(of("a", "x"), of("a", "x")), 1, api.ErrBad},
		{changes(of("a", "x"), away("a")), 1, api.ErrBad}, {changes(away("a"), of("b", ""), away("a")), 1, api.ErrBad}, {far, 1, api.ErrBad},
		// Two at once: the number, how many there are, then one change after the other.
		{tooMany, 0, api.ErrArg}, {nil, end + 1, api.ErrArg}, {changes(of("", "")), 0, api.ErrArg},
		{append(changes(of("", "")), tooMany...), 1, api.ErrMany}, {append(changes(long), tooMany...), 1, api.ErrMany},
		{changes(of("", long.Value)), 1, api.ErrKey}, {changes(api.Change{Key: "", Value: "v", Gone: true}), 1, api.ErrKey}, {changes(of("", ""), of("", "")), 1, api.ErrKey},
		{changes(api.Change{Key: "k", Value: long.Value, Gone: true}), 1, api.ErrText}, {changes(of("k", ""), long), 1, api.ErrText},
		{changes(long, of("", "")), 1, api.ErrText}, {changes(of("", ""), long), 1, api.ErrKey},
		{changes(badGone, of("", "")), 1, api.ErrBad}, {changes(of("", ""), badGone), 1, api.ErrKey},
		{changes(badGone, long), 1, api.ErrBad}, {changes(long, badGone), 1, api.ErrText},
		{changes(of("a", ""), of("a", ""), of("", "")), 1, api.ErrBad}, {changes(of("a", ""), of("", ""), of("a", "")), 1, api.ErrKey},
		// A value that may be makes the record too long; that is asked behind all changes.
		{changes(of("k", chars(api.MaxValue, 'v')), of("k", "")), 1, api.ErrBad}, {changes(of("k", chars(api.MaxValue, 'v')), of("", "")), 1, api.ErrKey},
	} {
		if got, e := Write(c.l, c.seq); got != "" || e != c.e {
			t.Errorf("%d: Write(%s, %d) = %.40q, %d, want %d", i, short(c.l), c.seq, got, e, c.e)
		}
	}
}

func TestReadOfNoRecord(t *testing.T) {
	for _, record := range []string{
		"", "\x01", "\x01\x01", "\x01\x01\x01", "\x01\x01\x01a", "\x01\x01\x01a\x00", "\x01\x01\x01a\x00\x01", // cut short
		"\x01\x01\x01a\x00\x01xy", "\x01\x01\x01a\x01\x00", "\x01\x01\x01a\x01x", // more behind
		"\x01\x01\x01a\x02", "\x01\x01\x01a\x02\x01x", "\x01\x01\x01a\xff\x01x", "\x01\x01\x01a\x80\x00\x01x", "\x01\x01\x01a\x81\x00", // neither 0 nor 1
		"\x00\x01\x01a\x01", "\x80\x80\x80\x80\x08\x01\x01a\x01", "\xff\xff\xff\xff\xff\xff\xff\xff\xff\x01\x01\x01a\x01", // numbers 0, 2^31, 2^64 - 1
		"\x81\x80\x80\x80\x10\x01\x01a\x01",                                                                                                  // 2^32 + 1
		"\x81\x00\x01\x01a\x01", "\x01\x81\x00\x01a\x01", "\x01\x01\x81\x00a\x01", "\x01\x01\x01a\x00\x81\x00x", "\x01\x01\x01a\x00\x80\x00", // longer than they must be
		"\x80", "\x01\x80", "\x01\x01\x80", "\x01\x01\x01a\x00\x80",
		"\x01\x00", "\x01\x02\x01a\x01", "\x01\x01\x01a\x01\x01b\x01", "\x01\x00\x01a\x01", // as many changes as do not follow
		"\x01\xff\xff\xff\xff\xff\xff\xff\xff\xff\x01\x01a\x01", "\x01\x01\xff\xff\xff\xff\xff\xff\xff\xff\xff\x01a\x01",
		"\x01\x01\x00\x01", "\x01\x01\x00\x00\x00", // no key
		"\x01\x02\x01a\x01\x01a\x01", "\x01\x03\x01a\x01\x01b\x01\x01a\x00\x00", // one key twice
		modelRecord{1, changes(of(chars(api.MaxKey+1, 'k'), ""))}.text(), modelRecord{1, numbered(api.MaxFresh + 1)}.text(), modelRecord{1, nil}.text(),
		modelRecord{1, changes(of("k", chars(api.MaxValue, 'v')))}.text(), modelRecord{1, changes(of("k", chars(api.MaxValue+1, 'v')))}.text(),
		chars(1<<20, 1), chars(1<<20, 255),
	} {
		wantRead(t, record, nil, 0, api.ErrBad)
	}
}

// What Read takes is what Write tells, byte by byte: each record cut anywhere, with a byte more, or with one byte changed.
func TestReadTakesWhatWriteTells(t *testing.T) {
	r := rand.New(rand.NewSource(121))
	taken, refused := 0, 0
	for range 300 {
		seq := 1 + r.Intn(end)>>r.Intn(31)
		l := drawChanges(r, drawKeys(r, 5), 4, 6)
		record, e := Write(l, seq)
		want, me := modelWrite(l, seq)
		if record != want || e != api.OK || me != api.OK {
			t.Fatalf("Write(%s, %d) = %q, %d, want %q", short(l), seq, record, e, want)
		}
		wantRead(t, record, l, seq, api.OK)
		others := []string{record + "\x00", record + "\x01", "\x00" + record}
		for i := range len(record) {
			others = append(others, record[:i], record[i+1:])
			for _, c := range []byte{0, 1, 2, 127, 128, byte(r.Intn(256))} {
				others = append(others, record[:i]+string([]byte{c})+record[i+1:])
			}
		}
		for _, other := range others {
			l, seq, e := Read(other)
			if e != api.OK {
				if l != nil || seq != 0 || e != api.ErrBad {
					t.Fatalf("Read(%q) = %s, %d, %d", other, short(l), seq, e)
				}
				refused++
				continue
			}
			if again, _ := modelWrite(l, seq); again != other {
				t.Fatalf("Read(%q) = %s, %d, which are written as %q", other, short(l), seq, again)
			}
			taken++
		}
	}
	if taken < 1000 || refused < 1000 {
		t.Errorf("%d were taken, %d refused: too few to tell", taken, refused)
	}
}

// Write by the model: drawn changes with drawn faults.
func TestWriteByModel(t *testing.T) {
	r := rand.New(rand.NewSource(122))
	count := map[api.Errno]int{}
	for range 4000 {
		seq := []int{0, 1, 5, end, end + 1}[min(4, r.Intn(40)/8)]
		var l []api.Change
		for range r.Intn(5) {
			c := api.Change{Key: drawText(r, 2), Value: drawText(r, 1), Gone: r.Intn(3) == 0}
			switch r.Intn(12) {
			case 0:
				c.Key = chars(255+r.Intn(3), 'k')
			case 1:
				c.Value = chars(4095+r.Intn(3), 'v')
			}
			l = append(l, c)
		}
		if r.Intn(20) == 0 {
			l = append(l, numbered(62+r.Intn(4))...)
		}
		want, e := modelWrite(l, seq)
		wantWrite(t, l, seq, want, e)
		count[e]++
	}
	for _, e := range []api.Errno{api.OK, api.ErrArg, api.ErrMany, api.ErrNone, api.ErrKey, api.ErrText, api.ErrBad} {
		if count[e] < 20 {
			t.Errorf("the error %d came up %d times: too few to tell", e, count[e])
		}
	}
}
