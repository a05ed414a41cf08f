package disk

import (
	"bytes"
	"math"
	"math/rand"
	"reflect"
	"testing"

	"docket/api"
)

const (
	size = api.Sector
	most = api.MaxSectors
)

// full is n bytes of c.
func full(n int, c byte) []byte { return bytes.Repeat([]byte{c}, n) }

// put is a write of a sector of c.
func put(n int, c byte) api.Put { return api.Put{Sector: n, Data: full(size, c)} }

func write(n int, c byte) api.Act { return api.Act{Put: put(n, c)} }

func flush() api.Act { return api.Act{Flush: true} }

// plain is a disk whose sector n is of bytes first + n, with the writes that wait.
func plain(count int, first byte, waits ...api.Put) api.Disk {
	d := api.Disk{Count: count, Waits: waits}
	for n := range count {
		d.Data = append(d.Data, full(size, first+byte(n))...)
	}
	return d
}

// puts is n writes of sector 0.
func puts(n int) []api.Put {
	var l []api.Put
	for i := range n {
		l = append(l, put(0, byte(i)))
	}
	return l
}

func zero(d api.Disk) bool { return d.Count == 0 && len(d.Data) == 0 && len(d.Waits) == 0 }

// isDisk holds an answer against what is wanted, by its fields.
func isDisk(t *testing.T, what string, got api.Disk, e api.Errno, want api.Disk) {
	t.Helper()
	if e != api.OK {
		t.Errorf("%s: error %d", what, e)
		return
	}
	same := got.Count == want.Count && bytes.Equal(got.Data, want.Data) && len(got.Waits) == len(want.Waits)
	for i := 0; same && i < len(want.Waits); i++ {
		same = got.Waits[i].Sector == want.Waits[i].Sector && bytes.Equal(got.Waits[i].Data, want.Waits[i].Data)
	}
	if !same {
		t.Errorf("%s: another disk than wanted: %d sectors, %d bytes, %d writes that wait, for %d, %d, %d", what, got.Count, len(got.Data), len(got.Waits), want.Count, len(want.Data), len(want.Waits))
	}
}

func isRefused(t *testing.T, what string, got api.Disk, e, want api.Errno) {
	t.Helper()
	if e != want || !zero(got) {
		t.Errorf("%s: error %d, disk %d/%d/%d; want error %d and no disk", what, e, got.Count, len(got.Data), len(got.Waits), want)
	}
}

func isBytes(t *testing.T, what string, got []byte, e api.Errno, want []byte) {
	t.Helper()
	if e != api.OK || !bytes.Equal(got, want) {
		t.Errorf("%s: error %d, bytes %v; want %v", what, e, got, want)
	}
}

func isNoBytes(t *testing.T, what string, got []byte, e, want api.Errno) {
	t.Helper()
	if e != want || len(got) != 0 {
		t.Errorf("%s: error %d, %d bytes; want error %d and none", what, e, len(got), want)
	}
}

func TestExamples(t *testing.T) {
	d, e := New(2)
	if e != api.OK {
		t.Fatal(e)
	}
	w, noughts := full(size, 1), full(size, 0)
	x, e := Write(d, 1, w)
	if e != api.OK {
		t.Fatal(e)
	}
	b, e := Read(x, 1)
	isBytes(t, "Read(X, 1)", b, e, w)
	b, e = Sure(x, 1)
	isBytes(t, "Sure(X, 1)", b, e, noughts)
	b, e = Read(x, 0)
	isBytes(t, "Read(X, 0)", b, e, noughts)
	f, _ := Flush(x)
	b, e = Sure(f, 1)
	isBytes(t, "Sure of Flush(X)", b, e, w)
	c, _ := Crash(x, []bool{true})
	b, e = Sure(c, 1)
	isBytes(t, "Sure of Crash(X, true)", b, e, w)
	c, _ = Crash(x, nil)
	b, e = Sure(c, 1)
	isBytes(t, "Sure of Crash(X, none)", b, e, noughts)
	g, e := New(0)
	isRefused(t, "New(0)", g, e, api.ErrDisk)
	g, e = New(4097)
	isRefused(t, "New(4097)", g, e, api.ErrDisk)
	b, e = Read(x, 2)
	isNoBytes(t, "Read(X, 2)", b, e, api.ErrRange)
	g, e = Write(x, 0, full(127, 1))
	isRefused(t, "Write of 127 bytes", g, e, api.ErrBad)
	if e := Check(api.Disk{}); e != api.ErrDisk {
		t.Errorf("Check(none) = %d", e)
	}
}

func TestNew(t *testing.T) {
	for _, n := range []int{1, 2, 3, 95, 96, most - 1, most} {
		d, e := New(n)
		isDisk(t, "New", d, e, api.Disk{Count: n, Data: make([]byte, n*size)})
		if e := Check(d); e != api.OK {
			t.Errorf("Check(New(%d)) = %d", n, e)
		}
	}
	for _, n := range []int{0, -1, -most, most + 1, 2 * most, math.MaxInt, math.MinInt, math.MaxInt/size + 1} {
		d, e := New(n)
		isRefused(t, "New", d, e, api.ErrDisk)
	}
}

// badDisks has one for each way in which a disk may not be.
func badDisks() map[string]api.Disk {
	short, long := api.Put{Data: full(size-1, 1)}, api.Put{Data: full(size+1, 1)}
	return map[string]api.Disk{
		"none":                            {},
		"no sectors, a write":             {Waits: []api.Put{put(0, 1)}},
		"Count below 0":                   {Count: -1},
		"Count least":                     {Count: math.MinInt},
		"Count wraps round":               {Count: math.MinInt / size * 2},
		"Count wraps round above":         {Count: math.MaxInt/size + 1, Data: nil},
		"Count too great":                 plain(most+1, 0),
		"Count 0 with bytes":              {Data: full(size, 0)},
		"no bytes":                        {Count: 1},
		"a byte too few":                  {Count: 2, Data: full(2*size-1, 0)},
		"a byte too many":                 {Count: 2, Data: full(2*size+1, 0)},
		"a sector too few":                {Count: 2, Data: full(size, 0)},
		"a sector too many":               {Count: 2, Data: full(3*size, 0)},
		"too many writes":                 plain(1, 0, puts(most+1)...),
		"a write at Count":                plain(2, 0, put(2, 1)),
		"a write below 0":                 plain(2, 0, put(-1, 1)),
		"a write far away":                plain(2, 0, put(math.MaxInt, 1)),
		"a write far below":               plain(2, 0, put(math.MinInt, 1)),
		"a write of no bytes":             plain(2, 0, api.Put{}),
		"a write of a byte too few":       plain(2, 0, short),
		"a write of a byte too many":      plain(2, 0, long),
		"a bad write behind good ones":    plain(2, 0, put(0, 1), put(1, 1), put(2, 1)),
		"a bad write ahead of good ones":  plain(2, 0, put(2, 1), put(0, 1), put(1, 1)),
		"short write behind good ones":    plain(2, 0, put(0, 1), put(1, 1), short),
		"long write between good ones":    plain(2, 0, put(0, 1), long, put(1, 1)),
		"a bad write behind the greatest": plain(1, 0, append(puts(most-1), put(1, 1))...),
	}
}

func TestCheck(t *testing.T) {
	for name, d := range map[string]api.Disk{
		"one sector":               plain(1, 5),
		"most sectors":             plain(most, 0),
		"no writes, not nil":       {Count: 1, Data: full(size, 0), Waits: []api.Put{}},
		"writes":                   plain(3, 0, put(0, 1), put(2, 2), put(0, 3)),
		"most writes":              plain(1, 0, puts(most)...),
		"most writes of the last":  plain(2, 0, append(puts(most-1), put(1, 1))...),
		"most of all":              plain(most, 0, append(puts(most-1), put(most-1, 1))...),
		"bytes with room to spare": {Count: 1, Data: make([]byte, size, 3*size)},
	} {
		if e := Check(d); e != api.OK {
			t.Errorf("%s: %d", name, e)
		}
	}
	for name, d := range badDisks() {
		if e := Check(d); e != api.ErrDisk {
			t.Errorf("%s: %d", name, e)
		}
	}
}

// Every call but Same answers ErrDisk first, whether its other arguments may be or not.
func TestBadDiskFirst(t *testing.T) {
	for name, d := range badDisks() {
		for _, n := range []int{0, 1, -1, math.MaxInt} {
			b, e := Read(d, n)
			isNoBytes(t, name+": Read", b, e, api.ErrDisk)
			b, e = Sure(d, n)
			isNoBytes(t, name+": Sure", b, e, api.ErrDisk)
			for _, data := range [][]byte{nil, full(size, 1), full(size+1, 1)} {
				x, e := Write(d, n, data)
				isRefused(t, name+": Write", x, e, api.ErrDisk)
			}
		}
		x, e := Flush(d)
		isRefused(t, name+": Flush", x, e, api.ErrDisk)
		for _, l := range [][]api.Act{nil, {flush()}, {write(0, 1)}, {write(-1, 1)}, {{}}} {
			x, e := Do(d, l)
			isRefused(t, name+": Do", x, e, api.ErrDisk)
		}
		for _, keep := range [][]bool{nil, {true}, make([]bool, most+2)} {
			x, e := Crash(d, keep)
			isRefused(t, name+": Crash", x, e, api.ErrDisk)
		}
	}
}

func TestReadAndSure(t *testing.T) {
	d := plain(4, 10, put(1, 50), put(3, 51), put(1, 52), put(3, 53), put(1, 54))
	now := []byte{10, 54, 12, 53}
	for n := range 4 {
		b, e := Read(d, n)
		isBytes(t, "Read", b, e, full(size, now[n]))
		b, e = Sure(d, n)
		isBytes(t, "Sure", b, e, full(size, byte(10+n)))
	}
	for _, n := range []int{-1, 4, 5, most, math.MaxInt, math.MinInt, math.MaxInt / size} {
		b, e := Read(d, n)
		isNoBytes(t, "Read", b, e, api.ErrRange)
		b, e = Sure(d, n)
		isNoBytes(t, "Sure", b, e, api.ErrRange)
	}
}

// A sector is read byte for byte, from its first to its last one.
func TestReadEachByte(t *testing.T) {
	d := plain(3, 0)
	for i := range d.Data {
		d.Data[i] = byte(i * 7 >> 2)
	}
	for n := range 3 {
		want := d.Data[n*size : n*size+size]
		b, e := Read(d, n)
		isBytes(t, "Read", b, e, want)
		b, e = Sure(d, n)
		isBytes(t, "Sure", b, e, want)
	}
	last := make([]byte, size)
	for i := range last {
		last[i] = byte(255 - i)
	}
	d.Waits = []api.Put{{Sector: 2, Data: last}}
	b, e := Read(d, 2)
	isBytes(t, "Read", b, e, last)
	f, e := Flush(d)
	isDisk(t, "Flush", f, e, api.Disk{Count: 3, Data: append(append([]byte{}, d.Data[:2*size]...), last...)})
}

func TestReadAtTheEdge(t *testing.T) {
	d := plain(most, 0, put(most-1, 200))
	b, e := Read(d, most-1)
	isBytes(t, "Read of the last", b, e, full(size, 200))
	b, e = Sure(d, most-1)
	isBytes(t, "Sure of the last", b, e, full(size, 255))
	b, e = Read(d, most)
	isNoBytes(t, "Read at MaxSectors", b, e, api.ErrRange)
}

func TestWrite(t *testing.T) {
	d := plain(3, 0, put(1, 50), put(0, 51))
	for _, n := range []int{0, 1, 2} {
		x, e := Write(d, n, full(size, 60))
		isDisk(t, "Write", x, e, plain(3, 0, put(1, 50), put(0, 51), put(n, 60)))
		b, e := Read(x, n)
		isBytes(t, "Read of it", b, e, full(size, 60))
		b, e = Sure(x, n)
		isBytes(t, "Sure of it", b, e, full(size, byte(n)))
	}
	// One that changes nothing waits like any other.
	x, e := Write(d, 2, full(size, 2))
	isDisk(t, "Write of the same", x, e, plain(3, 0, put(1, 50), put(0, 51), put(2, 2)))
}

func TestWriteRefuses(t *testing.T) {
	d := plain(3, 0, put(1, 50))
	crowd := plain(3, 0, puts(most)...)
	for _, c := range []struct {
		what string
		d    api.Disk
		n    int
		b    []byte
		want api.Errno
	}{
		{"below 0", d, -1, full(size, 1), api.ErrRange},
		{"least", d, math.MinInt, full(size, 1), api.ErrRange},
		{"at Count", d, 3, full(size, 1), api.ErrRange},
		{"behind Count", d, 4, full(size, 1), api.ErrRange},
		{"most", d, math.MaxInt, full(size, 1), api.ErrRange},
		{"no bytes", d, 0, nil, api.ErrBad},
		{"a byte too few", d, 2, full(size-1, 1), api.ErrBad},
		{"a byte too many", d, 2, full(size+1, 1), api.ErrBad},
		{"two sectors", d, 0, full(2*size, 1), api.ErrBad},
		{"crowded", crowd, 0, full(size, 1), api.ErrMany},
		{"range and bytes", d, 3, full(size-1, 1), api.ErrRange},
		{"range and crowded", crowd, -1, full(size, 1), api.ErrRange},
		{"bytes and crowded", crowd, 0, full(size+1, 1), api.ErrBad},
		{"all three", crowd, 3, nil, api.ErrRange},
	} {
		x, e := Write(c.d, c.n, c.b)
		isRefused(t, "Write "+c.what, x, e, c.want)
		x, e = Do(c.d, []api.Act{{Put: api.Put{Sector: c.n, Data: c.b}}})
		isRefused(t, "Do "+c.what, x, e, c.want)
	}
}

func TestWriteAtTheEdge(t *testing.T) {
	l := puts(most)
	x, e := Write(plain(2, 0, l[:most-1]...), 1, full(size, 9))
	isDisk(t, "the last one that may wait", x, e, plain(2, 0, append(l[:most-1:most-1], put(1, 9))...))
	x, e = Write(x, 1, full(size, 9))
	isRefused(t, "one more", x, e, api.ErrMany)
}

func TestFlush(t *testing.T) {
	for _, c := range []struct {
		what    string
		d, want api.Disk
	}{
		{"nothing waits", plain(2, 7), plain(2, 7)},
		{"an empty list", api.Disk{Count: 2, Data: full(2*size, 3), Waits: []api.Put{}}, api.Disk{Count: 2, Data: full(2*size, 3)}},
		{"the last one stays", plain(2, 0, put(1, 50), put(1, 51), put(1, 52)), api.Disk{Count: 2, Data: append(full(size, 0), full(size, 52)...)}},
		{"each sector", plain(3, 0, put(2, 9), put(0, 9), put(1, 9)), api.Disk{Count: 3, Data: full(3*size, 9)}},
		{"most writes", plain(1, 0, puts(most)...), api.Disk{Count: 1, Data: full(size, 255)}},
	} {
		x, e := Flush(c.d)
		isDisk(t, c.what, x, e, c.want)
		x, e = Do(c.d, []api.Act{flush()})
		isDisk(t, c.what+", by Do", x, e, c.want)
	}
}

func TestDo(t *testing.T) {
	d := plain(3, 0, put(1, 50))
	sure := plain(3, 0)
	copy(sure.Data[size:], full(size, 50))
	wild := api.Act{Flush: true, Put: api.Put{Sector: math.MinInt, Data: full(3, 1)}}
	tame := api.Act{Flush: true, Put: put(2, 99)}
	for _, c := range []struct {
		what string
		l    []api.Act
		want api.Disk
	}{
		{"no acts", nil, d},
		{"no acts, not nil", []api.Act{}, d},
		{"a write", []api.Act{write(2, 60)}, plain(3, 0, put(1, 50), put(2, 60))},
		{"writes in order", []api.Act{write(2, 60), write(0, 61), write(2, 62)}, plain(3, 0, put(1, 50), put(2, 60), put(0, 61), put(2, 62))},
		{"a flush", []api.Act{flush()}, sure},
		{"a flush whose Put may not be", []api.Act{wild}, sure},
		{"a flush whose Put may be", []api.Act{tame}, sure},
		{"two flushes", []api.Act{flush(), flush()}, sure},
		{"a write behind a flush", []api.Act{flush(), write(1, 60)}, api.Disk{Count: 3, Data: sure.Data, Waits: []api.Put{put(1, 60)}}},
		{"a flush behind writes", []api.Act{write(0, 70), write(1, 70), write(2, 69), write(2, 70), tame}, api.Disk{Count: 3, Data: full(3*size, 70)}},
	} {
		x, e := Do(d, c.l)
		isDisk(t, c.what, x, e, c.want)
	}
}

func TestDoRefuses(t *testing.T) {
	d := plain(3, 0, put(1, 50))
	far, short := write(3, 1), api.Act{Put: api.Put{Sector: 0, Data: full(size-1, 1)}}
	for _, c := range []struct {
		what string
		l    []api.Act
		want api.Errno
	}{
		{"one that is far", []api.Act{far}, api.ErrRange},
		{"one that is short", []api.Act{short}, api.ErrBad},
		{"no Put at all", []api.Act{{}}, api.ErrBad},
		{"the first error", []api.Act{write(0, 1), short, far}, api.ErrBad},
		{"the other one first", []api.Act{write(0, 1), far, short}, api.ErrRange},
		{"behind a flush", []api.Act{write(0, 1), flush(), write(1, 2), far, flush()}, api.ErrRange},
	} {
		x, e := Do(d, c.l)
		isRefused(t, c.what, x, e, c.want)
	}
	isDisk(t, "what was handed in", d, api.OK, plain(3, 0, put(1, 50)))
}

func TestDoAtTheEdge(t *testing.T) {
	var l []api.Act
	for i := range most {
		l = append(l, write(0, byte(i)))
	}
	d := plain(2, 0)
	x, e := Do(d, l)
	isDisk(t, "most writes", x, e, plain(2, 0, puts(most)...))
	x, e = Do(d, append(l[:most:most], write(0, 1)))
	isRefused(t, "one more", x, e, api.ErrMany)
	x, e = Do(d, append(l[:most:most], write(0, 1), write(2, 1)))
	isRefused(t, "one more, ahead of one that is far", x, e, api.ErrMany)
	x, e = Do(d, append(l[:most:most], write(2, 1), write(0, 1)))
	isRefused(t, "one that is far, ahead of one more", x, e, api.ErrRange)
	x, e = Do(d, append(append(l[:most:most], flush()), l...))
	isDisk(t, "a flush between", x, e, api.Disk{Count: 2, Data: append(full(size, 255), full(size, 1)...), Waits: puts(most)})
	x, e = Do(plain(2, 0, puts(most)...), []api.Act{flush(), write(1, 9)})
	isDisk(t, "crowded, then flushed", x, e, api.Disk{Count: 2, Data: append(full(size, 255), full(size, 1)...), Waits: []api.Put{put(1, 9)}})
	x, e = Do(plain(2, 0, puts(most)...), []api.Act{write(1, 9), flush()})
	isRefused(t, "crowded, flushed too late", x, e, api.ErrMany)
}

func TestCrash(t *testing.T) {
	d := plain(3, 0, put(1, 50), put(1, 51), put(2, 52), put(1, 53))
	for _, c := range []struct {
		what string
		keep []bool
		want [3]byte
	}{
		{"none", nil, [3]byte{0, 1, 2}},
		{"none, not nil", []bool{}, [3]byte{0, 1, 2}},
		{"all false", []bool{false, false, false, false}, [3]byte{0, 1, 2}},
		{"shorter: the first one", []bool{true}, [3]byte{0, 50, 2}},
		{"shorter: the second one", []bool{false, true}, [3]byte{0, 51, 2}},
		{"shorter: two", []bool{true, true}, [3]byte{0, 51, 2}},
		{"shorter: one sector", []bool{false, false, true}, [3]byte{0, 1, 52}},
		{"as long: the first one", []bool{true, false, false, false}, [3]byte{0, 50, 2}},
		{"as long: the last one", []bool{false, false, false, true}, [3]byte{0, 53, 2}},
		{"as long: some", []bool{true, false, true, false}, [3]byte{0, 50, 52}},
		{"as long: all", []bool{true, true, true, true}, [3]byte{0, 53, 52}},
		{"longer: all", []bool{true, true, true, true, true, true}, [3]byte{0, 53, 52}},
		{"longer: none that there is", []bool{false, false, false, false, true, true}, [3]byte{0, 1, 2}},
	} {
		x, e := Crash(d, c.keep)
		want := api.Disk{Count: 3}
		for _, b := range c.want {
			want.Data = append(want.Data, full(size, b)...)
		}
		isDisk(t, c.what, x, e, want)
	}
	x, e := Crash(plain(2, 4), []bool{true, true})
	isDisk(t, "nothing waits", x, e, plain(2, 4))
}

func TestCrashAtTheEdge(t *testing.T) {
	d := plain(1, 7, puts(most)...)
	keep := make([]bool, most)
	x, e := Crash(d, keep)
	isDisk(t, "none of the most", x, e, plain(1, 7))
	keep[most-1] = true
	x, e = Crash(d, keep)
	isDisk(t, "the last of the most", x, e, plain(1, 255))
	keep = make([]bool, most)
	keep[0] = true
	x, e = Crash(d, keep)
	isDisk(t, "the first of the most", x, e, plain(1, 0))
}

func TestSame(t *testing.T) {
	make1 := func() api.Disk { return plain(3, 0, put(1, 50), put(2, 51)) }
	for name, turn := range map[string]func(d *api.Disk){
		"Count":               func(d *api.Disk) { d.Count = 4 },
		"Count below 0":       func(d *api.Disk) { d.Count = -3 },
		"first byte":          func(d *api.Disk) { d.Data[0]++ },
		"last byte":           func(d *api.Disk) { d.Data[len(d.Data)-1]++ },
		"a byte fewer":        func(d *api.Disk) { d.Data = d.Data[:len(d.Data)-1] },
		"a byte more":         func(d *api.Disk) { d.Data = append(d.Data, 0) },
		"no bytes":            func(d *api.Disk) { d.Data = nil },
		"a write fewer":       func(d *api.Disk) { d.Waits = d.Waits[:1] },
		"a write more":        func(d *api.Disk) { d.Waits = append(d.Waits, put(2, 51)) },
		"no writes":           func(d *api.Disk) { d.Waits = nil },
		"order":               func(d *api.Disk) { d.Waits[0], d.Waits[1] = d.Waits[1], d.Waits[0] },
		"a write's sector":    func(d *api.Disk) { d.Waits[0].Sector = 0 },
		"last write's sector": func(d *api.Disk) { d.Waits[1].Sector = 1 },
		"a write's byte":      func(d *api.Disk) { d.Waits[0].Data[0]++ },
		"last write's byte":   func(d *api.Disk) { d.Waits[1].Data[size-1]++ },
		"a write cut":         func(d *api.Disk) { d.Waits[1].Data = d.Waits[1].Data[:size-1] },
		"a write longer":      func(d *api.Disk) { d.Waits[0].Data = append(d.Waits[0].Data, 0) },
	} {
		a, b := make1(), make1()
		if !Same(a, b) {
			t.Error("two of one kind differ")
		}
		turn(&b)
		if Same(a, b) || Same(b, a) {
			t.Errorf("%s: no difference", name)
		}
		c := make1()
		turn(&c)
		if !Same(b, c) || !Same(c, b) {
			t.Errorf("%s: twice turned, a difference", name)
		}
	}
	empty := api.Disk{Data: []byte{}, Waits: []api.Put{}}
	if !Same(api.Disk{}, empty) || !Same(empty, api.Disk{}) {
		t.Error("lists without elements differ")
	}
	for name, d := range badDisks() {
		if !Same(d, d) {
			t.Errorf("%s: not itself", name)
		}
	}
	// What is now the same, but waits in one alone, is not the same.
	x, _ := Flush(make1())
	if Same(x, make1()) {
		t.Error("flushed and waiting are the same")
	}
}

// spare is bytes with room behind them that is filled, so that a write into it is seen.
func spare(b []byte) []byte {
	return append(append(make([]byte, 0, len(b)+40), b...), full(40, 170)...)[:len(b)]
}

// roomy is d with spare room in each of its lists.
func roomy(d api.Disk) api.Disk {
	out := api.Disk{Count: d.Count, Data: spare(d.Data)}
	for _, w := range d.Waits {
		out.Waits = append(out.Waits, api.Put{Sector: w.Sector, Data: spare(w.Data)})
	}
	n := len(out.Waits)
	out.Waits = append(out.Waits, put(7, 170), put(7, 171))[:n]
	return out
}

// whole is a copy of a disk with all the room of its lists.
func whole(d api.Disk) api.Disk {
	out := api.Disk{Count: d.Count, Data: append([]byte{}, d.Data[:cap(d.Data)]...)}
	for _, w := range d.Waits[:cap(d.Waits)] {
		out.Waits = append(out.Waits, api.Put{Sector: w.Sector, Data: append([]byte{}, w.Data[:cap(w.Data)]...)})
	}
	return out
}

// scribble writes over a disk, its spare room too.
func scribble(d api.Disk) {
	blot(d.Data)
	for i := range d.Waits[:cap(d.Waits)] {
		w := &d.Waits[:cap(d.Waits)][i]
		blot(w.Data)
		w.Sector = -9
		w.Data = nil
	}
}

func blot(b []byte) {
	for i := range b[:cap(b)] {
		b[:cap(b)][i] = 222
	}
}

// disksOf is what each call that answers a disk answers.
func disksOf(d api.Disk, b []byte, l []api.Act, keep []bool) map[string]api.Disk {
	out := map[string]api.Disk{}
	out["Write"], _ = Write(d, 1, b)
	out["Flush"], _ = Flush(d)
	out["Do"], _ = Do(d, l)
	out["Do nothing"], _ = Do(d, nil)
	out["Crash"], _ = Crash(d, keep)
	out["Crash, none"], _ = Crash(d, nil)
	return out
}

func TestMemory(t *testing.T) {
	for _, d := range []api.Disk{roomy(plain(3, 0)), roomy(plain(3, 0, put(1, 50), put(2, 51), put(1, 52)))} {
		b := spare(full(size, 60))
		l := []api.Act{write(0, 61), flush(), {Put: api.Put{Sector: 2, Data: spare(full(size, 62))}}, write(1, 63)}
		keep := []bool{true, false, true, true, false}[:3]
		was, wasActs := whole(d), whole(api.Disk{Waits: []api.Put{l[0].Put, l[1].Put, l[2].Put, l[3].Put}})
		unhurt := func(what string) {
			t.Helper()
			acts := whole(api.Disk{Waits: []api.Put{l[0].Put, l[1].Put, l[2].Put, l[3].Put}})
			if !reflect.DeepEqual(whole(d), was) || !reflect.DeepEqual(acts, wasActs) {
				t.Fatalf("%s: what was handed in has changed", what)
			}
			if !bytes.Equal(b[:cap(b)], append(full(size, 60), full(40, 170)...)) || !reflect.DeepEqual(keep[:5], []bool{true, false, true, true, false}) {
				t.Fatalf("%s: what was handed in has changed", what)
			}
		}
		answers := disksOf(d, b, l, keep)
		unhurt("a call")
		Check(d)
		Same(d, d)
		unhurt("a call without an answer in memory")
		for name := range answers {
			scribble(answers[name])
			unhurt(name + ", its answer scribbled on")
		}
		for n := range 3 {
			r, _ := Read(d, n)
			s, _ := Sure(d, n)
			unhurt("Read or Sure")
			blot(r)
			if s[0] == 222 {
				t.Error("Read and Sure share memory")
			}
			blot(s)
			unhurt("Read or Sure, its answer scribbled on")
		}
	}
}

// No two lists of one answer share memory: a scribble on one is not seen in another.
func TestMemoryWithin(t *testing.T) {
	d := plain(3, 0, put(1, 50), put(2, 51), put(1, 52))
	shared := full(size, 60)
	l := []api.Act{{Put: api.Put{Sector: 0, Data: shared}}, {Put: api.Put{Sector: 1, Data: shared}}}
	for name := range disksOf(d, shared, l, []bool{true}) {
		lists := len(disksOf(d, shared, l, []bool{true})[name].Waits) + 1
		for i := range lists {
			a := disksOf(d, shared, l, []bool{true})[name]
			want := disksOf(d, shared, l, []bool{true})[name]
			part := func(d api.Disk, i int) []byte {
				if i == 0 {
					return d.Data
				}
				return d.Waits[i-1].Data
			}
			blot(part(a, i))
			for j := range lists {
				if j != i && !bytes.Equal(part(a, j), part(want, j)) {
					t.Errorf("%s: lists %d and %d share memory", name, i, j)
				}
			}
		}
	}
}

// What the caller does to its own lists later is not seen in an answer.
func TestNotKept(t *testing.T) {
	d, b := plain(2, 0, put(1, 50)), full(size, 60)
	l, keep := []api.Act{write(0, 61)}, []bool{true}
	answers := disksOf(d, b, l, keep)
	want := map[string]api.Disk{}
	for name := range answers {
		want[name] = whole(answers[name])
	}
	r, _ := Read(d, 1)
	s, _ := Sure(d, 1)
	scribble(d)
	blot(b)
	blot(l[0].Put.Data)
	keep[0] = false
	for name := range answers {
		if !reflect.DeepEqual(whole(answers[name]), want[name]) {
			t.Errorf("%s kept what was handed in", name)
		}
	}
	isBytes(t, "Read kept", r, api.OK, full(size, 50))
	isBytes(t, "Sure kept", s, api.OK, full(size, 1))
}

// drawn is a disk of few sectors, so that writes often meet, with distinct writes that wait.
func drawn(r *rand.Rand) api.Disk {
	d := plain(1+r.Intn(6), 0)
	r.Read(d.Data)
	for range r.Intn(9) {
		d.Waits = append(d.Waits, drawnPut(r, d.Count))
	}
	return d
}

func drawnPut(r *rand.Rand, count int) api.Put {
	p := api.Put{Sector: r.Intn(count), Data: make([]byte, size)}
	r.Read(p.Data)
	return p
}

func drawnActs(r *rand.Rand, count int) []api.Act {
	var l []api.Act
	for range r.Intn(12) {
		a := api.Act{Flush: r.Intn(4) == 0}
		if !a.Flush || r.Intn(2) == 0 {
			a.Put = drawnPut(r, count)
		}
		l = append(l, a)
	}
	return l
}

func drawnKeep(r *rand.Rand, n int) []bool {
	var keep []bool
	for range r.Intn(n + 3) {
		keep = append(keep, r.Intn(2) == 0)
	}
	return keep
}

// now is each sector of a disk as it is read.
func now(t *testing.T, d api.Disk) [][]byte {
	t.Helper()
	var l [][]byte
	for n := range d.Count {
		b, e := Read(d, n)
		if e != api.OK {
			t.Fatal(e)
		}
		l = append(l, b)
	}
	return l
}

// What was written is read until it is written anew, and what is sure is what was read at the last flush.
func TestDrawnActs(t *testing.T) {
	r := rand.New(rand.NewSource(2))
	for range 400 {
		d := drawn(r)
		l := drawnActs(r, d.Count)
		read := now(t, d)
		sure := now(t, api.Disk{Count: d.Count, Data: d.Data})
		x := d
		for _, a := range l {
			if a.Flush {
				x, _ = Flush(x)
				copy(sure, read)
			} else {
				x, _ = Write(x, a.Put.Sector, a.Put.Data)
				read[a.Put.Sector] = a.Put.Data
			}
			for n := range d.Count {
				b, e := Read(x, n)
				isBytes(t, "Read", b, e, read[n])
				b, e = Sure(x, n)
				isBytes(t, "Sure", b, e, sure[n])
			}
		}
		y, e := Do(d, l)
		isDisk(t, "Do", y, e, x)
	}
}

func TestDrawnPieces(t *testing.T) {
	r := rand.New(rand.NewSource(3))
	for range 400 {
		d := drawn(r)
		l := drawnActs(r, d.Count)
		if r.Intn(4) == 0 {
			l = append(l, write(d.Count, 1), api.Act{})
		}
		k := r.Intn(len(l) + 1)
		want, e := Do(d, l)
		x, e1 := Do(d, l[:k])
		if e1 == api.OK {
			x, e1 = Do(x, l[k:])
		}
		if e1 != e || !Same(x, want) {
			t.Errorf("in pieces: %d, whole: %d", e1, e)
		}
	}
}

func TestDrawnFlush(t *testing.T) {
	r := rand.New(rand.NewSource(4))
	for range 400 {
		d := drawn(r)
		f, e := Flush(d)
		if e != api.OK || len(f.Waits) != 0 || Check(f) != api.OK {
			t.Fatal(e)
		}
		if !reflect.DeepEqual(now(t, f), now(t, d)) {
			t.Error("a flush changes what is read")
		}
		var keep []bool
		for range len(d.Waits) + r.Intn(3) {
			keep = append(keep, true)
		}
		c, e := Crash(d, keep)
		isDisk(t, "a crash that keeps all", c, e, f)
	}
}

func TestDrawnCrash(t *testing.T) {
	r := rand.New(rand.NewSource(5))
	for range 400 {
		d := drawn(r)
		keep := drawnKeep(r, len(d.Waits))
		c, e := Crash(d, keep)
		if e != api.OK || len(c.Waits) != 0 || Check(c) != api.OK {
			t.Fatal(e)
		}
		for n := range d.Count {
			may, _ := Sure(d, n)
			some := [][]byte{may}
			for i, w := range d.Waits {
				if w.Sector != n {
					continue
				}
				some = append(some, w.Data)
				if i < len(keep) && keep[i] {
					may = w.Data
				}
			}
			b, e := Sure(c, n)
			isBytes(t, "the last one that was kept", b, e, may)
			found := false
			for _, s := range some {
				found = found || bytes.Equal(s, b)
			}
			if !found {
				t.Error("neither sure nor one of the writes")
			}
		}
	}
}
