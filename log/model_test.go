package log

import (
	"bytes"
	"encoding/binary"
	"math/rand"
	"slices"
	"strings"
	"testing"

	"docket/api"
	"docket/disk"
)

// The model writes a record out and holds the bytes against it; it calls none of the package's functions.

var little = binary.LittleEndian

// modelSector is one sector of a record, of any numbers, also such that no record has.
func modelSector(epoch, salt, prev uint32, number, count byte, size uint16, text string) []byte {
	b := little.AppendUint32(nil, epoch)
	b = little.AppendUint32(b, salt)
	b = little.AppendUint32(b, prev)
	b = little.AppendUint16(append(b, number, count), size)
	b = append(b, text...)
	return append(b, make([]byte, 128-len(b))...)
}

func modelFrame(epoch, salt, prev uint32, record string) []byte {
	var pieces []string
	for rest := record; ; {
		cut := min(112, len(rest))
		pieces = append(pieces, rest[:cut])
		if rest = rest[cut:]; rest == "" {
			break
		}
	}
	var b []byte
	for i, p := range pieces {
		b = append(b, modelSector(epoch, salt, prev, byte(i), byte(len(pieces)), uint16(len(p)), p)...)
	}
	return b
}

// modelOpen takes salt and length out of the bytes as they stand, writes such a record out, and asks whether the bytes are that.
func modelOpen(epoch, prev uint32, b []byte) (string, uint32, int) {
	if len(b) < 128 {
		return "", 0, 0
	}
	salt, many := little.Uint32(b[4:]), int(b[13])
	if salt == 0 || many == 0 || many > 37 || len(b) < 128*many {
		return "", 0, 0
	}
	var text string
	for i := range many {
		text += string(b[128*i+16 : 128*i+128])
	}
	size := 112*(many-1) + int(little.Uint16(b[128*many-114:]))
	if size > min(len(text), 4096) || !bytes.Equal(b[:128*many], modelFrame(epoch, salt, prev, text[:size])) {
		return "", 0, 0
	}
	return text[:size], salt, many
}

func modelNow(d api.Disk, n int) []byte {
	for i := len(d.Waits) - 1; i >= 0; i-- {
		if d.Waits[i].Sector == n {
			return d.Waits[i].Data
		}
	}
	return d.Data[128*n : 128*n+128]
}

// modelLog is the log of a disk that may be and has it; epoch 0: its head does not hold.
type modelLog struct {
	epoch   uint32
	records []string
	salts   []uint32
	at      int
	tail    [][]byte
	all     [][]byte
}

func modelRead(d api.Disk) modelLog {
	var m modelLog
	var rest []byte
	for n := 17; n < 80; n++ {
		m.all = append(m.all, modelNow(d, n))
		rest = append(rest, modelNow(d, n)...)
	}
	head := modelNow(d, 16)
	if epoch := little.Uint64(head); epoch >= 1<<32 || !bytes.Equal(head[8:], make([]byte, 120)) {
		return m
	}
	m.epoch = uint32(little.Uint64(head))
	var prev uint32
	for m.epoch > 0 {
		text, salt, many := modelOpen(m.epoch, prev, rest)
		if many == 0 {
			break
		}
		m.records, m.salts = append(m.records, text), append(m.salts, salt)
		m.at, prev, rest = m.at+many, salt, rest[128*many:]
	}
	m.tail = m.all[m.at:]
	return m
}

func modelAdd(d api.Disk, record string) ([]api.Act, api.Errno) {
	m := modelRead(d)
	if m.epoch == 0 {
		return nil, api.ErrLog
	}
	if len(record) > 4096 {
		return nil, api.ErrText
	}
	salt, prev := uint64(1), uint32(0)
	for _, s := range m.tail {
		if little.Uint32(s) == m.epoch {
			salt = max(salt, 1+uint64(little.Uint32(s[4:])), 1+uint64(little.Uint32(s[8:])))
		}
	}
	if len(m.salts) > 0 {
		prev = m.salts[len(m.salts)-1]
	}
	b := modelFrame(m.epoch, uint32(salt), prev, record)
	if salt >= 1<<32 || len(b) > 128*len(m.tail) {
		return nil, api.ErrSpace
	}
	var l []api.Act
	for i := 0; i < len(b); i += 128 {
		l = append(l, api.Act{Put: api.Put{Sector: 17 + m.at + i/128, Data: b[i : i+128]}})
	}
	return l, api.OK
}

func modelClear(d api.Disk) ([]api.Act, api.Errno) {
	m := modelRead(d)
	epoch := uint64(m.epoch) + 1
	for _, s := range m.all {
		epoch = max(epoch, 1+uint64(little.Uint32(s)))
	}
	if epoch >= 1<<32 {
		return nil, api.ErrSpace
	}
	return []api.Act{{Put: api.Put{Sector: 16, Data: modelHead(epoch)}}, {Flush: true}}, api.OK
}

func modelHead(epoch uint64) []byte {
	return append(little.AppendUint64(nil, epoch), make([]byte, 120)...)
}

// drawNumber draws mostly few numbers, so that they meet, and now and then the ends.
func drawNumber(r *rand.Rand) uint32 {
	ends := []uint32{0, 1, 1<<32 - 2, 1<<32 - 1, 256, 1 << 31}
	switch r.Intn(12) {
	case 0:
		return ends[r.Intn(len(ends))]
	case 1:
		return r.Uint32()
	}
	return uint32(1 + r.Intn(4))
}

// drawSmall draws such numbers only as leave room for greater ones.
func drawSmall(r *rand.Rand) uint32 { return uint32(r.Intn(5)) }

// drawRecord draws bytes of all kinds, noughts often at the end, of lengths at the sectors' edges often.
func drawRecord(r *rand.Rand, most int) string {
	edges := []int{0, 1, 111, 112, 113, 223, 224, 225, 4032, 4095, 4096}
	n := r.Intn(most + 1)
	if e := edges[r.Intn(len(edges))]; r.Intn(2) == 0 && e <= most {
		n = e
	}
	b := make([]byte, n)
	for i := range b {
		if r.Intn(3) > 0 {
			b[i] = byte(r.Intn(256))
		}
	}
	return string(b)
}

// drawTail lays into the sectors from one on what may stand in a torn end: parts of records of this epoch and of others, spoiled ones, noise, noughts.
func drawTail(r *rand.Rand, d api.Disk, from int, number func(*rand.Rand) uint32) {
	for n := from; n < 80; {
		epoch := number(r)
		if r.Intn(2) == 0 {
			epoch = little.Uint32(d.Data[128*16:])
		}
		b := modelFrame(epoch, number(r), number(r), drawRecord(r, 500))
		switch r.Intn(6) {
		case 0:
			b[r.Intn(len(b))] ^= byte(1 << r.Intn(8))
		case 1:
			b = b[128*r.Intn(len(b)/128):]
		case 2:
			b = make([]byte, 128)
			r.Read(b[:r.Intn(129)])
			copy(b, little.AppendUint32(nil, number(r)))
		case 3:
			b = make([]byte, 128)
		}
		n += copy(d.Data[128*n:128*80], b) / 128
	}
}

// drawDisk is a disk without waits whose log has a head that holds, some records, and a torn end of any kind.
func drawDisk(r *rand.Rand, number func(*rand.Rand) uint32) api.Disk {
	d, _ := disk.New(80 + r.Intn(8))
	r.Read(d.Data[:128*16])
	r.Read(d.Data[128*80:])
	copy(d.Data[128*16:], modelHead(uint64(max(1, number(r)))))
	drawTail(r, d, 17, number)
	at, prev := 17, uint32(0)
	for range r.Intn(6) {
		salt := max(1, number(r))
		b := modelFrame(little.Uint32(d.Data[128*16:]), salt, prev, drawRecord(r, 900))
		if at+len(b)/128 > 80 {
			break
		}
		copy(d.Data[128*at:], b)
		at, prev = at+len(b)/128, salt
	}
	return d
}

func drawKeep(r *rand.Rand, n int) []bool {
	keep := make([]bool, r.Intn(n+1))
	odds := 1 + r.Intn(4)
	for i := range keep {
		keep[i] = r.Intn(5) >= odds
	}
	return keep
}

func isActs(t *testing.T, what any, got, want []api.Act) bool {
	t.Helper()
	same := func(a, b api.Act) bool {
		return a.Flush == b.Flush && a.Put.Sector == b.Put.Sector && bytes.Equal(a.Put.Data, b.Put.Data)
	}
	if !slices.EqualFunc(got, want, same) {
		t.Errorf("%v: acts %v, want %v", what, got, want)
		return false
	}
	return true
}

// isLog holds all that reads a log against the model's.
func isLog(t *testing.T, what any, d api.Disk) modelLog {
	t.Helper()
	m := modelRead(d)
	want := api.OK
	if m.epoch == 0 {
		want = api.ErrLog
	}
	l, e := Records(d)
	at, f := At(d)
	epoch, g := Epoch(d)
	if !slices.Equal(l, m.records) || at != m.at || epoch != m.epoch || e != want || f != want || g != want {
		t.Errorf("%v: records %q, at %d, epoch %d, errors %d %d %d; want %q, %d, %d, %d", what, l, at, epoch, e, f, g, m.records, m.at, m.epoch, want)
	}
	return m
}

// TestModelReadsWhatItWrites: a model that took nothing, or all, would be of no use.
func TestModelReadsWhatItWrites(t *testing.T) {
	r := rand.New(rand.NewSource(50))
	for range 500 {
		s := drawRecord(r, 4096)
		b := modelFrame(7, 8, 9, s)
		got, salt, many := modelOpen(7, 9, append(b, 1))
		if got != s || salt != 8 || 128*many != len(b) {
			t.Fatalf("%q: %q, %d, %d", s, got, salt, many)
		}
		b[r.Intn(len(b))] ^= 1
		if got, _, _ := modelOpen(7, 9, b); got == s && s != "" && !strings.HasPrefix(string(b), string(modelFrame(7, little.Uint32(b[4:]), 9, s))) {
			t.Fatalf("%q of spoiled bytes", s)
		}
	}
}

// TestOpenByModel: bytes of all kinds.
func TestOpenByModel(t *testing.T) {
	r := rand.New(rand.NewSource(51))
	records, empty := 0, 0
	for round := range 4000 {
		epoch, prev := max(1, drawNumber(r)), drawNumber(r)
		b := modelFrame(epoch, drawNumber(r), prev, drawRecord(r, 5000))
		for range r.Intn(3) {
			b[r.Intn(len(b))] = byte(r.Intn(256))
		}
		if r.Intn(3) == 0 {
			i := 128*r.Intn(len(b)/128) + 12 + r.Intn(4)
			b[i] += byte(1 - r.Intn(3))
		}
		b = append(b, make([]byte, r.Intn(300))...)
		if r.Intn(4) == 0 {
			b = b[:len(b)-r.Intn(300)%len(b)]
		}
		want, ws, wn := modelOpen(epoch, prev, b)
		got, gs, gn, e := Open(epoch, prev, b)
		if got != want || gs != ws || gn != wn || e != api.OK {
			t.Fatalf("round %d: %q, %d, %d, error %d; want %q, %d, %d", round, got, gs, gn, e, want, ws, wn)
		}
		if gn > 0 {
			records++
		} else {
			empty++
		}
	}
	if records < 500 || empty < 500 {
		t.Error("too few of a kind:", records, empty)
	}
}

// TestFrameByModel: all numbers, all lengths.
func TestFrameByModel(t *testing.T) {
	r := rand.New(rand.NewSource(52))
	for size := range 4097 {
		epoch, salt, prev := max(1, drawNumber(r)), max(1, drawNumber(r)), drawNumber(r)
		s := drawRecord(r, 4096)
		s = (s + strings.Repeat("y", 4096))[:size]
		b, e := Frame(epoch, salt, prev, s)
		if !bytes.Equal(b, modelFrame(epoch, salt, prev, s)) || e != api.OK {
			t.Fatalf("of %d bytes: error %d", size, e)
		}
		got, gs, gn, e := Open(epoch, prev, b)
		if got != s || gs != salt || 128*gn != len(b) || e != api.OK {
			t.Fatalf("of %d bytes: read back as %d bytes, %d, %d, error %d", size, len(got), gs, gn, e)
		}
	}
}

// TestLogByModel: on drawn disks, also such whose writes wait, all answer what the model does, and the acts can be done.
func TestLogByModel(t *testing.T) {
	r := rand.New(rand.NewSource(53))
	count := map[api.Errno]int{}
	for round := range 3000 {
		d := drawDisk(r, drawNumber)
		if r.Intn(8) == 0 {
			d.Data[128*16+r.Intn(128)] ^= byte(1 + r.Intn(255))
		}
		for range r.Intn(4) {
			b := make([]byte, 128)
			copy(b, modelFrame(drawNumber(r), drawNumber(r), drawNumber(r), drawRecord(r, 112)))
			d, _ = disk.Write(d, 17+r.Intn(63), b)
		}
		m := isLog(t, round, d)
		s := drawRecord(r, 4200)
		if r.Intn(2) == 0 {
			s = drawRecord(r, 300)
		}
		for _, c := range []struct {
			name      string
			want, got func(api.Disk, string) ([]api.Act, api.Errno)
			left      []string
			rises     bool
		}{
			{"Add", modelAdd, Add, append(slices.Clone(m.records), s), false},
			{"Clear", func(d api.Disk, _ string) ([]api.Act, api.Errno) { return modelClear(d) }, func(d api.Disk, _ string) ([]api.Act, api.Errno) { return Clear(d) }, nil, true},
		} {
			want, e := c.want(d, s)
			got, f := c.got(d, s)
			count[f]++
			if e != f || !isActs(t, round, got, want) {
				t.Fatalf("round %d: %s: error %d, want %d", round, c.name, f, e)
			}
			if f != api.OK {
				continue
			}
			x, g := disk.Do(d, got)
			l, h := Records(x)
			if g != api.OK || h != api.OK || !slices.Equal(l, c.left) {
				t.Fatalf("round %d: %s: records %q, errors %d %d", round, c.name, l, g, h)
			}
			if n, _ := Epoch(x); (n > m.epoch) != c.rises {
				t.Fatalf("round %d: %s: epoch %d behind %d", round, c.name, n, m.epoch)
			}
		}
	}
	for _, e := range []api.Errno{api.OK, api.ErrLog, api.ErrText, api.ErrSpace} {
		if count[e] == 0 {
			t.Errorf("no round had the error %d", e)
		}
	}
}
