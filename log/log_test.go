package log

import (
	"bytes"
	"fmt"
	"slices"
	"strings"
	"testing"

	"docket/api"
	"docket/disk"
)

const top = 1<<32 - 1

// emptied is a disk of noughts with Clear's acts done.
func emptied(t *testing.T, count int) api.Disk {
	t.Helper()
	d, _ := disk.New(count)
	return done(t, d, Clear)
}

func done(t *testing.T, d api.Disk, call func(api.Disk) ([]api.Act, api.Errno)) api.Disk {
	t.Helper()
	acts, e := call(d)
	if e != api.OK {
		t.Fatalf("error %d", e)
	}
	x, e := disk.Do(d, acts)
	if e != api.OK {
		t.Fatalf("the acts can't be done: error %d", e)
	}
	return x
}

func added(t *testing.T, d api.Disk, l ...string) api.Disk {
	t.Helper()
	for _, s := range l {
		d = done(t, d, func(d api.Disk) ([]api.Act, api.Errno) { return Add(d, s) })
	}
	return d
}

// of is a disk whose head has an epoch, and from sector 17 on these bytes.
func of(epoch uint64, l ...[]byte) api.Disk {
	d, _ := disk.New(80)
	copy(d.Data[128*16:], modelHead(epoch))
	copy(d.Data[128*17:], slices.Concat(l...))
	return d
}

func hasRecords(t *testing.T, what any, d api.Disk, want ...string) {
	t.Helper()
	l, e := Records(d)
	if e != api.OK || !slices.Equal(l, want) {
		t.Errorf("%v: records %.300q, error %d, want %.300q", what, l, e, want)
	}
	at := 0
	for _, s := range want {
		at += max(1, (len(s)+111)/112)
	}
	if n, e := At(d); n != at || e != api.OK {
		t.Errorf("%v: at %d, error %d, want %d", what, n, e, at)
	}
}

func hasEpoch(t *testing.T, what any, d api.Disk, want uint32) {
	t.Helper()
	if n, e := Epoch(d); n != want || e != api.OK {
		t.Errorf("%v: epoch %d, error %d, want %d", what, n, e, want)
	}
}

func isActsOf(t *testing.T, what any, got []api.Act, e api.Errno, want ...api.Act) {
	t.Helper()
	if e != api.OK {
		t.Errorf("%v: error %d", what, e)
	}
	isActs(t, what, got, want)
}

func isNoActs(t *testing.T, what any, got []api.Act, e, want api.Errno) {
	t.Helper()
	if len(got) > 0 || e != want {
		t.Errorf("%v: acts %v, error %d, want %d", what, got, e, want)
	}
}

func isOpened(t *testing.T, what any, epoch, prev uint32, b []byte, text string, salt uint32, sectors int) {
	t.Helper()
	s, n, k, e := Open(epoch, prev, b)
	if s != text || n != salt || k != sectors || e != api.OK {
		t.Errorf("%v: %.200q, %d, %d, error %d; want %.200q, %d, %d", what, s, n, k, e, text, salt, sectors)
	}
}

func put(sector int, b []byte) api.Act {
	return api.Act{Put: api.Put{Sector: sector, Data: b}}
}

func TestExamples(t *testing.T) {
	d, _ := disk.New(100)
	if l, e := Records(d); len(l) > 0 || e != api.ErrLog {
		t.Errorf("Records(D): %q, error %d", l, e)
	}
	acts, e := Clear(d)
	head := append([]byte{1}, make([]byte, 127)...)
	isActsOf(t, "Clear(D)", acts, e, put(16, head), api.Act{Flush: true})
	l, _ := disk.Do(d, acts)
	hasEpoch(t, "Epoch(L)", l, 1)
	hasRecords(t, "Records(L)", l)
	acts, e = Add(l, "abc")
	sector := append([]byte{1, 0, 0, 0, 1, 0, 0, 0, 0, 0, 0, 0, 0, 1, 3, 0, 'a', 'b', 'c'}, make([]byte, 109)...)
	isActsOf(t, "Add(L, abc)", acts, e, put(17, sector))
	x, _ := disk.Do(l, acts)
	hasRecords(t, "behind it", x, "abc")
	long := strings.Repeat("q", 113)
	x = added(t, x, long)
	hasRecords(t, "and of 113 bytes", x, "abc", long)
	if n, _ := At(x); n != 3 {
		t.Errorf("At %d", n)
	}
	isOpened(t, "Open(1, 0, that)", 1, 0, sector, "abc", 1, 1)
	isOpened(t, "Open(2, 0, it)", 2, 0, sector, "", 0, 0)
	isOpened(t, "Open(1, 1, it)", 1, 1, sector, "", 0, 0)
}

// TestFrameWrittenOut: each byte of it by hand, of two sectors, and of numbers that have four bytes.
func TestFrameWrittenOut(t *testing.T) {
	b, e := Frame(0x04030201, 0x08070605, 0x0c0b0a09, strings.Repeat("z", 112)+"end")
	want := append([]byte{1, 2, 3, 4, 5, 6, 7, 8, 9, 10, 11, 12, 0, 2, 112, 0}, bytes.Repeat([]byte("z"), 112)...)
	want = append(want, 1, 2, 3, 4, 5, 6, 7, 8, 9, 10, 11, 12, 1, 2, 3, 0, 'e', 'n', 'd')
	want = append(want, make([]byte, 109)...)
	if !bytes.Equal(b, want) || e != api.OK {
		t.Errorf("%v, error %d", b, e)
	}
}

func TestFrameSizes(t *testing.T) {
	for _, c := range []struct{ size, sectors, last int }{
		{0, 1, 0}, {1, 1, 1}, {111, 1, 111}, {112, 1, 112}, {113, 2, 1}, {224, 2, 112}, {225, 3, 1}, {4032, 36, 112}, {4033, 37, 1}, {4096, 37, 64},
	} {
		s := strings.Repeat("r", c.size)
		b, e := Frame(3, 5, 7, s)
		if len(b) != 128*c.sectors || e != api.OK {
			t.Fatalf("of %d bytes: %d, error %d", c.size, len(b), e)
		}
		for i := range c.sectors {
			size := 112
			if i == c.sectors-1 {
				size = c.last
			}
			if got := b[128*i+12 : 128*i+16]; !slices.Equal(got, []byte{byte(i), byte(c.sectors), byte(size), 0}) {
				t.Errorf("of %d bytes: sector %d begins with %v", c.size, i, got)
			}
		}
		isOpened(t, c.size, 3, 7, b, s, 5, c.sectors)
	}
}

func TestFrameErrors(t *testing.T) {
	long := strings.Repeat("r", 4097)
	for _, c := range []struct {
		epoch, salt, prev uint32
		record            string
		want              api.Errno
	}{
		{0, 1, 1, "a", api.ErrArg}, {1, 0, 1, "a", api.ErrArg}, {0, 0, 0, "", api.ErrArg},
		{0, 1, 0, long, api.ErrArg}, {1, 0, 0, long, api.ErrArg}, {1, 1, 0, long, api.ErrText},
		{1, 1, 0, long[1:], api.OK}, {top, top, top, "a", api.OK}, {top - 1, top - 1, top - 1, "a", api.OK}, {1, 1, 0, "", api.OK},
	} {
		b, e := Frame(c.epoch, c.salt, c.prev, c.record)
		if e != c.want || e != api.OK && len(b) > 0 {
			t.Errorf("Frame(%d, %d, %d, of %d bytes): %d bytes, error %d, want %d", c.epoch, c.salt, c.prev, len(c.record), len(b), e, c.want)
		}
	}
}

func TestOpenNumbers(t *testing.T) {
	for _, n := range []uint32{1, 2, 255, 256, 65536, 1 << 24, top - 1, top} {
		isOpened(t, n, n, 4, modelFrame(n, 3, 4, "a"), "a", 3, 1)
		isOpened(t, n, 2, 4, modelFrame(2, n, 4, "a"), "a", n, 1)
		isOpened(t, n, 2, n, modelFrame(2, 3, n, "a"), "a", 3, 1)
		isOpened(t, n, n^4, 4, modelFrame(n, 3, 4, "a"), "", 0, 0)
		isOpened(t, n, 2, n^4, modelFrame(2, 3, n, "a"), "", 0, 0)
	}
	isOpened(t, "no salt", 2, 4, modelFrame(2, 0, 4, "a"), "", 0, 0)
	isOpened(t, "no prev", 2, 0, modelFrame(2, 3, 0, "a"), "a", 3, 1)
	for _, b := range [][]byte{nil, {1}, modelFrame(0, 1, 0, "a")} {
		if s, n, k, e := Open(0, 0, b); s != "" || n != 0 || k != 0 || e != api.ErrArg {
			t.Errorf("Open(0, ..): %q, %d, %d, error %d", s, n, k, e)
		}
	}
}

func TestOpenLengths(t *testing.T) {
	for _, s := range []string{"", "a", strings.Repeat("b", 112), strings.Repeat("c", 113), strings.Repeat("d", 4096)} {
		b := modelFrame(2, 3, 4, s)
		many := len(b) / 128
		for cut := range len(b) {
			isOpened(t, cut, 2, 4, b[:cut], "", 0, 0)
		}
		isOpened(t, "just enough", 2, 4, b, s, 3, many)
		for _, more := range [][]byte{{0}, {1}, make([]byte, 127), modelFrame(2, 3, 4, s), bytes.Repeat([]byte{255}, 300)} {
			isOpened(t, "more", 2, 4, slices.Concat(b, more), s, 3, many)
		}
	}
}

// TestOpenEachByte: in any sector of a record each byte another one. Of the 16 first ones only such a change counts that makes another record of it: another salt in its only sector, more noughts as the last sector's, or the first sector as the only one.
func TestOpenEachByte(t *testing.T) {
	for _, size := range []int{0, 1, 5, 112, 113, 200, 224, 225} {
		s := strings.Repeat("e", size)
		b := modelFrame(2, 3, 4, s)
		for at := range b {
			for x := 1; x < 256; x++ {
				c := slices.Clone(b)
				c[at] ^= byte(x)
				text, salt, many := modelOpen(2, 4, c)
				isOpened(t, fmt.Sprint(size, " ", at, " ", x), 2, 4, c, text, salt, many)
				counts := at%128 >= 16 && at-16-at/128*16 < size
				if at >= 4 && at < 8 {
					counts = len(b) == 128 && salt > 0
				}
				if at == 13 {
					counts = c[at] == 1
				}
				if at == len(b)-114 {
					counts = c[at] > b[at] && c[at] <= 112
				}
				if (many > 0) != counts {
					t.Errorf("of %d bytes: byte %d turned by %d: %d sectors", size, at, x, many)
				}
			}
		}
	}
}

// TestOpenOdd: sectors that tell what no record does.
func TestOpenOdd(t *testing.T) {
	full := strings.Repeat("f", 112)
	sector := func(number, count byte, size uint16, text string) []byte {
		return modelSector(2, 3, 4, number, count, size, text)
	}
	var long, many []byte
	for i := range 37 {
		long = append(long, sector(byte(i), 37, 112, full)...)
	}
	copy(long[36*128:], sector(36, 37, 65, full[:65]))
	for i := range 255 {
		many = append(many, sector(byte(i), 255, 112, full)...)
	}
	last := slices.Clone(long)
	copy(last[36*128:], sector(36, 37, 64, full[:64]))
	isOpened(t, "4096 bytes", 2, 4, last, strings.Repeat("f", 4096), 3, 37)
	for what, b := range map[string][]byte{
		"one byte too many":     long,
		"of 255 sectors":        many,
		"of none":               sector(0, 0, 1, "a"),
		"of none, without any":  sector(0, 0, 0, ""),
		"not the first":         sector(1, 1, 1, "a"),
		"the second one":        sector(1, 2, 1, "a"),
		"of two, one there":     sector(0, 2, 112, full),
		"size of 113":           sector(0, 1, 113, full),
		"size of 256":           sector(0, 1, 256, ""),
		"size of 257":           sector(0, 1, 257, "a"),
		"size of 65535":         sector(0, 1, 65535, full),
		"more than its size":    sector(0, 1, 1, "ab"),
		"filled at the end":     sector(0, 1, 1, "a"+strings.Repeat("\x00", 110)+"b"),
		"all filled":            sector(0, 1, 0, full),
		"a last one of nothing": slices.Concat(sector(0, 2, 112, full), sector(1, 2, 0, "")),
		"a first one not full":  slices.Concat(sector(0, 2, 111, full[:111]), sector(1, 2, 1, "a")),
		"an inner one not full": slices.Concat(sector(0, 3, 112, full), sector(1, 3, 111, full[:111]), sector(2, 3, 1, "a")),
		"an inner one empty":    slices.Concat(sector(0, 3, 112, full), sector(1, 3, 0, ""), sector(2, 3, 1, "a")),
		"an inner one too full": slices.Concat(sector(0, 2, 113, full), sector(1, 2, 1, "a")),
		"turned round":          slices.Concat(sector(1, 2, 1, "a"), sector(0, 2, 112, full)),
		"the first one twice":   slices.Concat(sector(0, 2, 112, full), sector(0, 2, 112, full)),
		"other counts":          slices.Concat(sector(0, 2, 112, full), sector(1, 3, 1, "a")),
		"other epochs":          slices.Concat(sector(0, 2, 112, full), modelSector(1, 3, 4, 1, 2, 1, "a")),
		"other salts":           slices.Concat(sector(0, 2, 112, full), modelSector(2, 4, 4, 1, 2, 1, "a")),
		"other salts ahead":     slices.Concat(sector(0, 2, 112, full), modelSector(2, 3, 3, 1, 2, 1, "a")),
		"a filled last one":     slices.Concat(sector(0, 2, 112, full), sector(1, 2, 1, "aa")),
		"noughts":               make([]byte, 128),
		"ones":                  bytes.Repeat([]byte{255}, 128*255),
	} {
		isOpened(t, what, 2, 4, b, "", 0, 0)
	}
}

// headless are disks that have the log's sectors, but no head that holds.
func headless() map[string]api.Disk {
	m := map[string]api.Disk{}
	for what, n := range map[string]uint64{"0": 0, "2^32": 1 << 32, "2^32 + 1": 1<<32 + 1, "2^63": 1 << 63, "2^64 - 1": 1<<64 - 1} {
		m["a head of "+what] = of(n, modelFrame(1, 1, 0, "a"))
	}
	for i := 8; i < 128; i++ {
		d := of(1, modelFrame(1, 1, 0, "a"))
		d.Data[128*16+i] = 1
		m[fmt.Sprint("a head with a byte at ", i)] = d
	}
	return m
}

// noDisks are disks that may not be.
func noDisks() map[string]api.Disk {
	d := of(1, modelFrame(1, 1, 0, "a"))
	bad := map[string]api.Disk{"none": {}, "a byte too few": {Count: 80, Data: d.Data[1:]}, "a sector too few": {Count: 81, Data: d.Data}}
	bad["a wait beyond"] = api.Disk{Count: 80, Data: d.Data, Waits: []api.Put{{Sector: 80, Data: make([]byte, 128)}}}
	bad["a wait of 127"] = api.Disk{Count: 80, Data: d.Data, Waits: []api.Put{{Sector: 20, Data: make([]byte, 127)}}}
	bad["no count"] = api.Disk{Data: d.Data}
	bad["small, a wait beyond"] = api.Disk{Count: 1, Data: d.Data[:128], Waits: []api.Put{{Sector: 1, Data: make([]byte, 128)}}}
	return bad
}

// isRefused asks all calls of a disk; Clear has an error of its own.
func isRefused(t *testing.T, what string, d api.Disk, want, clear api.Errno) {
	t.Helper()
	if l, e := Records(d); len(l) > 0 || e != want {
		t.Errorf("%s: Records %q, error %d, want %d", what, l, e, want)
	}
	if n, e := At(d); n != 0 || e != want {
		t.Errorf("%s: At %d, error %d, want %d", what, n, e, want)
	}
	if n, e := Epoch(d); n != 0 || e != want {
		t.Errorf("%s: Epoch %d, error %d, want %d", what, n, e, want)
	}
	// The disk is judged ahead of the record.
	for _, s := range []string{"", "a", strings.Repeat("a", 4097)} {
		acts, e := Add(d, s)
		isNoActs(t, what, acts, e, want)
	}
	acts, e := Clear(d)
	if e != clear || e != api.OK && len(acts) > 0 {
		t.Errorf("%s: Clear %v, error %d, want %d", what, acts, e, clear)
	}
}

func TestDiskErrors(t *testing.T) {
	for what, d := range noDisks() {
		isRefused(t, what, d, api.ErrDisk, api.ErrDisk)
	}
	for _, count := range []int{1, 16, 17, 79} {
		d := of(1, modelFrame(1, 1, 0, "a"))
		d.Count, d.Data = count, d.Data[:128*count]
		isRefused(t, fmt.Sprint(count, " sectors"), d, api.ErrLog, api.ErrLog)
	}
	for what, d := range headless() {
		isRefused(t, what, d, api.ErrLog, api.OK)
		x := done(t, d, Clear)
		hasEpoch(t, what, x, 2)
		hasRecords(t, what, x)
	}
	hasRecords(t, "80 sectors", of(1, modelFrame(1, 1, 0, "a")), "a")
	big := emptied(t, 4096)
	hasRecords(t, "4096 sectors", added(t, big, "a", "b"), "a", "b")
}

func TestEpochs(t *testing.T) {
	for _, n := range []uint32{1, 2, 255, 256, 1 << 31, top - 1, top} {
		d := of(uint64(n), modelFrame(n, 9, 0, "a"), modelFrame(n^1, 9, 9, "b"))
		hasEpoch(t, n, d, n)
		hasRecords(t, n, d, "a")
	}
}

// TestRecordsEnd: where the next record's sectors are not just these, the log ends.
func TestRecordsEnd(t *testing.T) {
	long := strings.Repeat("o", 300)
	a, b := modelFrame(5, 9, 0, "a"), modelFrame(5, 2, 9, long)
	c := modelFrame(5, 2, 2, "")
	hasRecords(t, "three", of(5, a, b, c), "a", long, "")
	hasRecords(t, "a first one with a salt ahead", of(5, modelFrame(5, 9, 1, "a"), b))
	hasRecords(t, "a gap", of(5, a, make([]byte, 128), b, c), "a")
	hasRecords(t, "the first one missing", of(5, make([]byte, 128), b, c))
	hasRecords(t, "a sector missing", of(5, a, b[:256], make([]byte, 128), c), "a")
	hasRecords(t, "a sector left out", of(5, a, b[:256], c), "a")
	hasRecords(t, "another salt ahead", of(5, a, b, modelFrame(5, 2, 9, "")), "a", long)
	hasRecords(t, "another epoch", of(5, a, b, modelFrame(4, 2, 2, "")), "a", long)
	hasRecords(t, "no salt", of(5, a, modelFrame(5, 0, 9, "")), "a")
	hasRecords(t, "noise behind", of(5, a, b, bytes.Repeat([]byte{255}, 900)), "a", long)
}

// TestRecordsUpTo79: a record whose last sector would be the sector 80 is none.
func TestRecordsUpTo79(t *testing.T) {
	for _, room := range []int{1, 2, 3} {
		var fill []byte
		var want []string
		for i := range 63 - room {
			fill = append(fill, modelFrame(5, uint32(i+1), uint32(i), "")...)
			want = append(want, "")
		}
		for size := 1; size <= 4; size++ {
			s := strings.Repeat("s", 112*size)
			d, _ := disk.New(90)
			copy(d.Data[128*16:], modelHead(5))
			copy(d.Data[128*17:], fill)
			copy(d.Data[128*(80-room):], modelFrame(5, 7, uint32(63-room), s))
			if size <= room {
				hasRecords(t, size, d, append(slices.Clone(want), s)...)
			} else {
				hasRecords(t, size, d, want...)
			}
		}
	}
}

// TestReadNow: what waits is read, and the last one of it.
func TestReadNow(t *testing.T) {
	d := of(5, modelFrame(5, 9, 0, "a"))
	x, _ := disk.Write(d, 17, modelFrame(5, 8, 0, "b"))
	x, _ = disk.Write(x, 18, modelFrame(5, 8, 9, "behind a"))
	hasRecords(t, "a wait", x, "b")
	x, _ = disk.Write(x, 17, modelFrame(5, 9, 0, "c"))
	hasRecords(t, "two waits", x, "c", "behind a")
	x, _ = disk.Write(x, 16, modelHead(6))
	hasRecords(t, "a head that waits", x)
	hasEpoch(t, "a head that waits", x, 6)
	hasEpoch(t, "for sure", d, 5)
}

func TestAddActs(t *testing.T) {
	d := of(5, modelFrame(5, 9, 0, "a"), modelFrame(5, 4, 9, "b"))
	for _, size := range []int{0, 1, 111, 112, 113, 224, 225, 4095, 4096} {
		s := strings.Repeat("n", size)
		acts, e := Add(d, s)
		b := modelFrame(5, 1, 4, s)
		var want []api.Act
		for i := range len(b) / 128 {
			want = append(want, put(19+i, b[128*i:128*i+128]))
		}
		isActsOf(t, size, acts, e, want...)
		x, _ := disk.Do(d, acts)
		hasRecords(t, size, x, "a", "b", s)
	}
	acts, e := Add(d, strings.Repeat("n", 4097))
	isNoActs(t, "of 4097", acts, e, api.ErrText)
}

// saltOf is the salt of a record that is added, and the one ahead that it names.
func saltOf(t *testing.T, what any, d api.Disk, salt, prev uint32) {
	t.Helper()
	acts, e := Add(d, "new")
	isActsOf(t, what, acts, e, put(acts0(acts), modelFrame(little.Uint32(modelNow(d, 16)), salt, prev, "new")))
}

func acts0(l []api.Act) int {
	if len(l) == 0 {
		return -1
	}
	return l[0].Put.Sector
}

func TestAddSalts(t *testing.T) {
	a := modelFrame(5, 9, 0, "a")
	nought := make([]byte, 128)
	torn := func(salt, prev uint32) []byte { return modelSector(5, salt, prev, 3, 9, 112, "torn") }
	saltOf(t, "none", of(5), 1, 0)
	saltOf(t, "behind a record", of(5, a), 1, 9)
	saltOf(t, "a salt", of(5, a, torn(7, 2)), 8, 9)
	saltOf(t, "a salt ahead", of(5, a, torn(2, 7)), 8, 9)
	saltOf(t, "salts", of(5, a, torn(3, 2), torn(2, 6), torn(4, 1)), 7, 9)
	saltOf(t, "of other epochs", of(5, a, modelSector(4, 30, 30, 0, 2, 0, ""), modelSector(6, 30, 30, 0, 1, 0, ""), torn(2, 1)), 3, 9)
	saltOf(t, "behind noughts", of(5, a, nought, nought, torn(7, 2)), 8, 9)
	saltOf(t, "at the end", of(5, bytes.Repeat(nought, 62), torn(3, 90)), 91, 0)
	saltOf(t, "the records' own count for nothing", of(5, modelFrame(5, 100, 0, "a"), modelFrame(5, 1, 100, "b"), torn(3, 1)), 4, 1)
	saltOf(t, "just the epoch", of(5, a, []byte{5, 0, 0, 0}), 1, 9)
	saltOf(t, "no epoch of a number in eight bytes", of(5, a, []byte{5, 0, 0, 0, 0, 0, 0, 0, 0, 0, 0, 1}), 1<<24+1, 9)
	saltOf(t, "a later record whole", of(5, a, nought, modelFrame(5, 1, 1, "late")), 2, 9)
	saltOf(t, "of two bytes", of(5, torn(255, 1)), 256, 0)
	saltOf(t, "of four", of(5, torn(1, 1<<24-1)), 1<<24, 0)
	saltOf(t, "the last but one", of(5, torn(top-1, 1)), top, 0)
	saltOf(t, "a salt ahead, the last but one", of(5, torn(1, top-1)), top, 0)
	saltOf(t, "the last one in another epoch", of(5, modelSector(4, top, top, 0, 1, 0, "")), 1, 0)
	saltOf(t, "the last one as a record's", of(5, modelFrame(5, top, 0, "")), 1, top)
	saltOf(t, "beside the greatest epoch", of(top, modelSector(top, 6, 0, 1, 1, 0, "")), 7, 0)
	for what, d := range map[string]api.Disk{"salt": of(5, a, torn(top, 1)), "salt ahead": of(5, a, torn(1, top)), "both": of(5, torn(top, top))} {
		acts, e := Add(d, "new")
		isNoActs(t, what, acts, e, api.ErrSpace)
		acts, e = Add(d, strings.Repeat("n", 4097))
		isNoActs(t, "too long, and no "+what, acts, e, api.ErrText)
		hasRecords(t, what, added(t, done(t, d, Clear), "new"), "new")
	}
}

// TestAddSpace: a log that is full to sector 79, and one sector less.
func TestAddSpace(t *testing.T) {
	for _, count := range []int{80, 81, 200} {
		d := emptied(t, count)
		want := []string{strings.Repeat("a", 4096), strings.Repeat("b", 24*112)}
		d = added(t, d, want...)
		hasRecords(t, "two sectors left", d, want...)
		acts, e := Add(d, strings.Repeat("c", 225))
		isNoActs(t, "three needed", acts, e, api.ErrSpace)
		acts, e = Add(d, strings.Repeat("c", 4097))
		isNoActs(t, "too long, and no room", acts, e, api.ErrText)
		x := added(t, d, strings.Repeat("c", 224))
		hasRecords(t, "full", x, append(want, strings.Repeat("c", 224))...)
		y := added(t, d, "", "")
		hasRecords(t, "full of empty ones", y, append(want, "", "")...)
		for _, z := range []api.Disk{x, y} {
			for _, s := range []string{"", "a", strings.Repeat("a", 4096)} {
				acts, e := Add(z, s)
				isNoActs(t, "full", acts, e, api.ErrSpace)
			}
			acts, e := Add(z, strings.Repeat("c", 4097))
			isNoActs(t, "too long, and full", acts, e, api.ErrText)
			hasRecords(t, "emptied", done(t, z, Clear))
		}
	}
	d := emptied(t, 80)
	for range 63 {
		d = added(t, d, "")
	}
	hasRecords(t, "63 records", d, make([]string, 63)...)
	acts, e := Add(d, "")
	isNoActs(t, "one more", acts, e, api.ErrSpace)
}

func TestClearEpochs(t *testing.T) {
	at := func(n int, epoch uint32) []byte {
		return append(make([]byte, 128*(n-17)), little.AppendUint32(nil, epoch)...)
	}
	spoiled := of(50)
	spoiled.Data[128*16+127] = 1
	beyond, _ := disk.New(90)
	copy(beyond.Data[128*15:], little.AppendUint32(nil, 70))
	copy(beyond.Data[128*80:], little.AppendUint32(nil, 70))
	for _, c := range []struct {
		what string
		d    api.Disk
		want uint64
	}{
		{"nothing", of(0), 1},
		{"a head", of(1), 2},
		{"a head of 255", of(255), 256},
		{"the last but one", of(top - 1), top},
		{"a record of it", of(4, modelFrame(4, 9, 0, "a")), 5},
		{"sector 17 greater", of(4, at(17, 8)), 9},
		{"sector 79 greater", of(4, at(79, 8)), 9},
		{"a lesser one", of(4, at(40, 3)), 5},
		{"the same", of(4, at(40, 4)), 5},
		{"the greatest of them", of(4, modelFrame(6, 100, 200, "a"), modelFrame(9, 1, 2, "b"), modelFrame(7, 50, 60, "c")), 10},
		{"the last but one in a sector", of(4, at(50, top-1)), top},
		{"no head, a sector", of(0, at(50, 12)), 13},
		{"a head too great, a sector", of(1<<32, at(50, 12)), 13},
		{"a head that does not hold", spoiled, 1},
		{"sectors that are not the log's", beyond, 1},
	} {
		acts, e := Clear(c.d)
		isActsOf(t, c.what, acts, e, put(16, modelHead(c.want)), api.Act{Flush: true})
		x, _ := disk.Do(c.d, acts)
		hasEpoch(t, c.what, x, uint32(c.want))
		hasRecords(t, c.what, x)
		if len(x.Waits) > 0 {
			t.Errorf("%s: writes wait", c.what)
		}
		hasRecords(t, c.what, added(t, x, "a", "b"), "a", "b")
	}
	for what, d := range map[string]api.Disk{"head": of(top), "sector 17": of(4, at(17, top)), "sector 79": of(4, at(79, top)), "sector, no head": of(0, at(30, top))} {
		acts, e := Clear(d)
		isNoActs(t, what, acts, e, api.ErrSpace)
	}
}

// TestClearNow: epochs are those that stand there now.
func TestClearNow(t *testing.T) {
	d := of(4, little.AppendUint32(nil, 30))
	x, _ := disk.Write(d, 17, make([]byte, 128))
	acts, e := Clear(x)
	isActsOf(t, "a greater one written over", acts, e, put(16, modelHead(5)), api.Act{Flush: true})
	y, _ := disk.Write(d, 18, modelFrame(40, 1, 0, ""))
	acts, e = Clear(y)
	isActsOf(t, "a greater one that waits", acts, e, put(16, modelHead(41)), api.Act{Flush: true})
}

// TestClearAgainAndAgain: nothing of an emptied log comes back, though its sectors stay.
func TestClearAgainAndAgain(t *testing.T) {
	d := emptied(t, 80)
	for i := range 5 {
		hasEpoch(t, i, d, uint32(2*i+1))
		d = added(t, d, fmt.Sprint("a", i), fmt.Sprint("b", i), fmt.Sprint("c", i))
		hasRecords(t, i, d, fmt.Sprint("a", i), fmt.Sprint("b", i), fmt.Sprint("c", i))
		d = done(t, d, Clear)
		hasRecords(t, i, d)
		d = added(t, d, "again")
		hasRecords(t, i, d, "again")
		d = done(t, d, Clear)
		hasRecords(t, i, d)
	}
}

func guarded(b []byte) []byte {
	g := append(slices.Clone(b), bytes.Repeat([]byte{77}, 200)...)
	return g[:len(b)]
}

func isGuarded(t *testing.T, what string, b []byte) {
	t.Helper()
	if spare := b[len(b) : len(b)+200]; !bytes.Equal(spare, bytes.Repeat([]byte{77}, 200)) {
		t.Errorf("%s: the spare room was written", what)
	}
}

// TestOnlyRead: of what is handed in neither bytes nor spare room are written.
func TestOnlyRead(t *testing.T) {
	prepared := func() (api.Disk, []byte, []byte) {
		d := of(5, modelFrame(5, 9, 0, "a"), modelFrame(5, 3, 9, "b"))
		d.Data = guarded(d.Data)
		wait := guarded(modelFrame(5, 2, 3, "c"))
		waits := append(make([]api.Put, 0, 4), api.Put{Sector: 19, Data: wait}, api.Put{Sector: 40, Data: guarded(make([]byte, 128))})
		d.Waits = waits
		return d, d.Data, wait
	}
	want, _, _ := prepared()
	d, data, wait := prepared()
	Records(d)
	At(d)
	Epoch(d)
	Add(d, "new")
	Add(d, strings.Repeat("n", 4096))
	Clear(d)
	if !disk.Same(d, want) {
		t.Error("the disk was changed")
	}
	if more := d.Waits[:4]; more[2].Data != nil || more[3].Data != nil || more[2].Sector != 0 {
		t.Error("the spare room of the waits was written")
	}
	isGuarded(t, "data", data)
	isGuarded(t, "wait", wait)
	b := guarded(modelFrame(2, 3, 4, strings.Repeat("x", 200)))
	before := slices.Clone(b)
	Open(2, 4, b)
	Open(2, 4, b[:100])
	if !bytes.Equal(b, before) {
		t.Error("Open changed its bytes")
	}
	isGuarded(t, "Open", b)
}

// TestNewMemory: what is answered shares nothing with what was handed in, nor do two lists of it.
func TestNewMemory(t *testing.T) {
	b := modelFrame(2, 3, 4, strings.Repeat("x", 200))
	s, _, _, _ := Open(2, 4, b)
	clear(b)
	if s != strings.Repeat("x", 200) {
		t.Error("Open's text is the bytes'")
	}
	d := of(5, modelFrame(5, 9, 0, "a"))
	d.Waits = []api.Put{{Sector: 18, Data: modelFrame(5, 3, 9, "b")}}
	l, _ := Records(d)
	adds, _ := Add(d, strings.Repeat("n", 300))
	clears, _ := Clear(d)
	keep := func(l []api.Act) (c []api.Act) {
		for _, a := range l {
			a.Put.Data = slices.Clone(a.Put.Data)
			c = append(c, a)
		}
		return c
	}
	wantAdds, wantClears := keep(adds), keep(clears)
	clear(d.Data)
	clear(d.Waits[0].Data)
	if !slices.Equal(l, []string{"a", "b"}) {
		t.Error("Records' texts are the disk's")
	}
	isActs(t, "Add's", adds, wantAdds)
	isActs(t, "Clear's", clears, wantClears)
	for i := range adds {
		c := adds[i].Put.Data
		for k := range c[:cap(c)] {
			c[:cap(c)][k] = 99
		}
		isActs(t, "Add's behind this one", adds[i+1:], wantAdds[i+1:])
		isActs(t, "Add's ahead of this one", adds[:i], wantAdds[:i])
		copy(c, wantAdds[i].Put.Data)
	}
	x := of(5, modelFrame(5, 9, 0, "a"), modelFrame(5, 3, 9, "b"))
	first, _ := Records(x)
	clear(first)
	hasRecords(t, "asked again", x, "a", "b")
	f, _ := Frame(1, 2, 3, "abc")
	clear(f)
	g, _ := Frame(1, 2, 3, "abc")
	if !bytes.Equal(g, modelFrame(1, 2, 3, "abc")) {
		t.Error("Frame's bytes are shared")
	}
}

// TestSameTwice: what is answered hangs on the arguments alone.
func TestSameTwice(t *testing.T) {
	d := of(5, modelFrame(5, 9, 0, "a"), modelSector(5, 3, 2, 1, 2, 7, "torn"))
	first, _ := Add(d, "new")
	Clear(d)
	Add(d, "other")
	second, _ := Add(d, "new")
	isActs(t, "Add", second, first)
}

// TestManyWaits: a disk on which as many writes wait as may be is read, and emptied of them by what comes behind a flush.
func TestManyWaits(t *testing.T) {
	d := of(5, modelFrame(5, 9, 0, "a"))
	for i := range 4096 {
		d.Waits = append(d.Waits, api.Put{Sector: 18 + i%62, Data: modelSector(5, uint32(i), 0, 0, 0, 0, "")})
	}
	hasRecords(t, "many waits", d, "a")
	saltOf(t, "many waits", d, 4096, 9)
	x, _ := disk.Flush(d)
	hasRecords(t, "made sure", added(t, x, "b"), "a", "b")
}
