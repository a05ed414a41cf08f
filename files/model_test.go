package files

import (
	"bytes"
	"encoding/binary"
	"maps"
	"math/rand"
	"slices"
	"strings"
	"testing"

	"docket/api"
	"docket/disk"
)

// The model goes sector by sector and byte by byte, and calls none of the package's functions.

const (
	kilo     = 1024
	modelEnd = uint64(1) << 62
	alphabet = "abcdefghijklmnopqrstuvwxyz0123456789-_."
)

func modelName(s string) bool {
	return len(s) >= 1 && len(s) <= 32 && strings.Trim(s, alphabet) == "" && !strings.ContainsFunc(s, func(r rune) bool { return !strings.ContainsRune(alphabet, r) })
}

// modelMayBe has an owner for each sector.
func modelMayBe(x api.Dir) bool {
	if x.Gen < 1 || uint64(x.Gen) >= modelEnd || len(x.Files) > 32 {
		return false
	}
	var owner [4096]bool
	for i, f := range x.Files {
		if !modelName(f.Name) || i > 0 && strings.Compare(x.Files[i-1].Name, f.Name) >= 0 || f.Size < 0 || f.Size > 4096*128 {
			return false
		}
		many := 0
		for _, p := range f.Pieces {
			if p.From < 80 || p.From > 4095 || p.Count < 1 || p.Count > 4096 || p.From+p.Count > 4096 {
				return false
			}
			for n := p.From; n < p.From+p.Count; n++ {
				if owner[n] {
					return false
				}
				owner[n] = true
				many++
			}
		}
		if many*128 < f.Size || (many-1)*128 >= f.Size {
			return false
		}
	}
	return true
}

func modelInside(l []api.File) []byte {
	b := binary.AppendUvarint(nil, uint64(len(l)))
	for _, f := range l {
		b = append(binary.AppendUvarint(b, uint64(len(f.Name))), f.Name...)
		b = binary.AppendUvarint(b, uint64(f.Size))
		b = binary.AppendUvarint(b, uint64(len(f.Pieces)))
		for _, p := range f.Pieces {
			b = binary.AppendUvarint(binary.AppendUvarint(b, uint64(p.From)), uint64(p.Count))
		}
	}
	return b
}

// modelSectors parts any inside of 952 bytes.
func modelSectors(gen uint64, in []byte) []byte {
	var b []byte
	for i := range 8 {
		b = append(binary.LittleEndian.AppendUint64(b, gen), byte(i))
		b = append(b, in[119*i:119*i+119]...)
	}
	return b
}

func modelBytes(x api.Dir) []byte {
	in := modelInside(x.Files)
	return modelSectors(uint64(x.Gen), append(in, make([]byte, 952-len(in))...))
}

// modelRead reads as much as there is, any way it is written, and then asks whether that has just these bytes.
func modelRead(b []byte) (api.Dir, bool) {
	if len(b) != kilo {
		return api.Dir{}, false
	}
	var in []byte
	for i := range 8 {
		in = append(in, b[128*i+9:128*i+128]...)
	}
	at := 0
	next := func() int {
		n, k := binary.Uvarint(in[at:])
		at += max(k, 0)
		if k <= 0 || n > 1<<20 {
			at = len(in)
			return 1 << 21
		}
		return int(n)
	}
	x := api.Dir{Gen: int(binary.LittleEndian.Uint64(b))}
	for many := next(); len(x.Files) < many && at < len(in); {
		var f api.File
		k := next()
		if at+k > len(in) {
			return api.Dir{}, false
		}
		f.Name = string(in[at : at+k])
		at += k
		f.Size = next()
		for pieces := next(); len(f.Pieces) < pieces && at < len(in); {
			p := api.Piece{From: next()}
			p.Count = next()
			f.Pieces = append(f.Pieces, p)
		}
		x.Files = append(x.Files, f)
	}
	if !modelMayBe(x) || len(modelInside(x.Files)) > 952 || !bytes.Equal(modelBytes(x), b) {
		return api.Dir{}, false
	}
	return x, true
}

func modelNow(d api.Disk, n int) []byte {
	b := d.Data[128*n : 128*n+128]
	for _, w := range d.Waits {
		if w.Sector == n {
			b = w.Data
		}
	}
	return b
}

// modelMount is for disks that may be.
func modelMount(d api.Disk) (x api.Dir, at int, ok bool) {
	if d.Count < 96 {
		return x, 0, false
	}
	for _, from := range []int{0, 8} {
		var b []byte
		for i := range 8 {
			b = append(b, modelNow(d, from+i)...)
		}
		y, holds := modelRead(b)
		for _, f := range y.Files {
			for _, p := range f.Pieces {
				holds = holds && p.From+p.Count <= d.Count
			}
		}
		if holds && (!ok || y.Gen > x.Gen) {
			x, at, ok = y, from, true
		}
	}
	return x, at, ok
}

// modelHouse is all files of a disk with their bytes, by the model.
func modelHouse(d api.Disk) (map[string]string, bool) {
	x, _, ok := modelMount(d)
	if !ok {
		return nil, false
	}
	out := map[string]string{}
	for _, f := range x.Files {
		var b []byte
		for _, p := range f.Pieces {
			for n := p.From; n < p.From+p.Count; n++ {
				b = append(b, modelNow(d, n)...)
			}
		}
		out[f.Name] = string(b[:f.Size])
	}
	return out, true
}

// modelTurn is for disks that may be.
func modelTurn(d api.Disk, l []api.Change) ([]api.Act, api.Errno) {
	old, at, ok := modelMount(d)
	if !ok {
		return nil, api.ErrMount
	}
	if len(l) > 64 {
		return nil, api.ErrMany
	}
	files := map[string]api.File{}
	var owner [4096]bool
	for _, f := range old.Files {
		files[f.Name] = f
		for _, p := range f.Pieces {
			for n := p.From; n < p.From+p.Count; n++ {
				owner[n] = true
			}
		}
	}
	had := maps.Clone(files)
	seen := map[string]bool{}
	for _, c := range l {
		_, there := had[c.Key]
		switch {
		case !modelName(c.Key):
			return nil, api.ErrName
		case seen[c.Key]:
			return nil, api.ErrBad
		case c.Gone && !there:
			return nil, api.ErrNone
		}
		seen[c.Key] = true
		delete(files, c.Key)
		if !c.Gone {
			files[c.Key] = api.File{Name: c.Key}
		}
	}
	if len(files) > 32 {
		return nil, api.ErrFull
	}
	var acts []api.Act
	next := 80
	for _, c := range l {
		if c.Gone {
			continue
		}
		f := api.File{Name: c.Key, Size: len(c.Value)}
		for v := c.Value; v != ""; {
			for next < d.Count && owner[next] {
				next++
			}
			if next >= d.Count {
				return nil, api.ErrSpace
			}
			k := min(len(v), 128)
			acts = append(acts, api.Act{Put: api.Put{Sector: next, Data: []byte(v[:k] + strings.Repeat("\x00", 128-k))}})
			v = v[k:]
			if i := len(f.Pieces) - 1; i >= 0 && f.Pieces[i].From+f.Pieces[i].Count == next {
				f.Pieces[i].Count++
			} else {
				f.Pieces = append(f.Pieces, api.Piece{From: next, Count: 1})
			}
			next++
		}
		files[c.Key] = f
	}
	gen := uint64(old.Gen)
	for i := range 8 {
		if n := binary.LittleEndian.Uint64(modelNow(d, 8-at+i)); n < modelEnd {
			gen = max(gen, n)
		}
	}
	x := api.Dir{Gen: int(gen + 1)}
	for _, name := range slices.Sorted(maps.Keys(files)) {
		x.Files = append(x.Files, files[name])
	}
	if gen+1 == modelEnd || len(modelInside(x.Files)) > 952 {
		return nil, api.ErrFull
	}
	if len(acts) > 0 {
		acts = append(acts, api.Act{Flush: true})
	}
	b := modelBytes(x)
	for i := range 8 {
		acts = append(acts, api.Act{Put: api.Put{Sector: 8 - at + i, Data: b[128*i : 128*i+128]}})
	}
	return append(acts, api.Act{Flush: true}), api.OK
}

// What is drawn: names of few letters, so that they meet; sizes about the edges of sectors.

func drawName(r *rand.Rand) string {
	n := 1 + r.Intn(2)
	if r.Intn(8) == 0 {
		n = 1 + r.Intn(32)
	}
	b := make([]byte, n)
	for i := range b {
		b[i] = "abc.-_09z"[r.Intn(9)]
	}
	return string(b)
}

func drawValue(r *rand.Rand, most int) string {
	n := 0
	switch r.Intn(4) {
	case 0:
		n = r.Intn(3)
	case 1:
		n = 128*r.Intn(3) + r.Intn(3) - 1
	default:
		n = r.Intn(most)
	}
	b := make([]byte, max(n, 0))
	r.Read(b)
	return string(b)
}

// drawChanges are mostly such that may be done.
func drawChanges(r *rand.Rand, have []string, most int) []api.Change {
	var l []api.Change
	for range r.Intn(6) {
		c := api.Change{Key: drawName(r), Value: drawValue(r, most)}
		if len(have) > 0 && r.Intn(2) == 0 {
			c.Key = have[r.Intn(len(have))]
			c.Gone = r.Intn(2) == 0
		}
		again := slices.ContainsFunc(l, func(o api.Change) bool { return o.Key == c.Key })
		if again && r.Intn(30) > 0 {
			continue
		}
		switch r.Intn(100) {
		case 0:
			c.Gone = true
		case 1:
			c.Key += "A"
		}
		l = append(l, c)
	}
	return l
}

// drawNoise lays sectors of the slot that does not count as they may be left there.
func drawNoise(r *rand.Rand, d api.Disk) {
	_, at, ok := modelMount(d)
	if !ok || r.Intn(3) > 0 {
		return
	}
	for i := range 8 {
		s := d.Data[128*(8-at+i):][:128]
		switch r.Intn(6) {
		case 0:
			r.Read(s)
		case 1:
			binary.LittleEndian.PutUint64(s, modelEnd+uint64(r.Intn(5)))
		case 2:
			binary.LittleEndian.PutUint64(s, uint64(r.Intn(50)))
		case 3:
			clear(s)
		}
	}
}

func keys(m map[string]string) []string { return slices.Sorted(maps.Keys(m)) }

// drawDisk is a disk with a past: turns, some of them broken off, and noise.
func drawDisk(r *rand.Rand) api.Disk {
	d, _ := Format(96 + r.Intn(40))
	for range r.Intn(8) {
		have, _ := modelHouse(d)
		a, e := modelTurn(d, drawChanges(r, keys(have), 1+r.Intn(1200)))
		if e != api.OK {
			continue
		}
		if r.Intn(3) == 0 {
			a = a[:r.Intn(len(a))]
		}
		d, _ = disk.Do(d, a)
		d, _ = disk.Crash(d, drawKeep(r, len(d.Waits)))
		drawNoise(r, d)
	}
	return d
}

func drawKeep(r *rand.Rand, n int) []bool {
	keep := make([]bool, n)
	odds := 1 + r.Intn(4)
	for i := range keep {
		keep[i] = r.Intn(odds) == 0
	}
	return keep
}

func isActs(t *testing.T, what any, got, want []api.Act) bool {
	t.Helper()
	if len(got) != len(want) {
		t.Errorf("%v: %d acts, want %d", what, len(got), len(want))
		return false
	}
	for i, a := range got {
		w := want[i]
		if a.Flush != w.Flush || a.Put.Sector != w.Put.Sector || !bytes.Equal(a.Put.Data, w.Put.Data) {
			t.Errorf("%v: act %d is (%v, %d), want (%v, %d), or other bytes", what, i, a.Flush, a.Put.Sector, w.Flush, w.Put.Sector)
			return false
		}
	}
	return true
}

// sameDir tells whether two directories are the same; lists of nothing may be nil or not.
func sameDir(a, b api.Dir) bool {
	return a.Gen == b.Gen && slices.EqualFunc(a.Files, b.Files, func(f, g api.File) bool {
		return f.Name == g.Name && f.Size == g.Size && slices.Equal(f.Pieces, g.Pieces)
	})
}

func isHouse(t *testing.T, what any, d api.Disk, want map[string]string) bool {
	t.Helper()
	got, e := houseOf(d)
	if e != api.OK || !maps.Equal(got, want) {
		t.Errorf("%v: error %d, files %v, want %v", what, e, keys(got), keys(want))
		return false
	}
	return true
}

// houseOf is all files of a disk with their bytes, by the package's own calls.
func houseOf(d api.Disk) (map[string]string, api.Errno) {
	l, e := Names(d)
	if e != api.OK {
		return nil, e
	}
	out := map[string]string{}
	for _, name := range l {
		b, e := Get(d, name)
		if e != api.OK {
			return nil, e
		}
		out[name] = string(b)
	}
	return out, api.OK
}

// behind is what the files are behind changes that may be done.
func behind(have map[string]string, l []api.Change) map[string]string {
	out := maps.Clone(have)
	for _, c := range l {
		delete(out, c.Key)
		if !c.Gone {
			out[c.Key] = c.Value
		}
	}
	return out
}

func TestModelReadsWhatItWrites(t *testing.T) {
	x := api.Dir{Gen: 5, Files: []api.File{{Name: "a", Size: 130, Pieces: []api.Piece{{From: 90, Count: 1}, {From: 80, Count: 1}}}, {Name: "b"}}}
	if y, ok := modelRead(modelBytes(x)); !ok || !sameDir(x, y) {
		t.Error(y, ok)
	}
}
