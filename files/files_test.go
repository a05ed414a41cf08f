package files

import (
	"bytes"
	"encoding/binary"
	"errors"
	"fmt"
	"math"
	"math/rand"
	"slices"
	"strings"
	"testing"

	"docket/api"
	"docket/disk"
)

const topGen = 1<<62 - 1

func put(name, value string) api.Change { return api.Change{Key: name, Value: value} }

func gone(name string) api.Change { return api.Change{Key: name, Gone: true} }

func formatted(t *testing.T, count int) api.Disk {
	t.Helper()
	d, e := Format(count)
	if e != api.OK {
		t.Fatalf("Format(%d): error %d", count, e)
	}
	return d
}

// done is a disk behind a turn.
func done(t *testing.T, d api.Disk, l ...api.Change) api.Disk {
	t.Helper()
	acts, e := Turn(d, l)
	if e != api.OK {
		t.Fatalf("Turn: error %d", e)
	}
	x, e := disk.Do(d, acts)
	if e != api.OK {
		t.Fatalf("Do: error %d", e)
	}
	return x
}

// laid is a disk with the bytes of a directory, or others, laid for sure into a slot.
func laid(d api.Disk, at int, b []byte) api.Disk {
	data := bytes.Clone(d.Data)
	copy(data[at*api.Sector:], b)
	return api.Disk{Count: d.Count, Data: data, Waits: d.Waits}
}

// pieced is pieces out of From and Count, two numbers a piece.
func pieced(numbers ...int) []api.Piece {
	var l []api.Piece
	for i := 0; i < len(numbers); i += 2 {
		l = append(l, api.Piece{From: numbers[i], Count: numbers[i+1]})
	}
	return l
}

func file(name string, size int, numbers ...int) api.File {
	return api.File{Name: name, Size: size, Pieces: pieced(numbers...)}
}

func dir(gen int, l ...api.File) api.Dir { return api.Dir{Gen: gen, Files: l} }

// empties is n files of no bytes, with rising names of so many bytes (at least 3).
func empties(n, size int) []api.File {
	var l []api.File
	for i := range n {
		l = append(l, file(fmt.Sprintf("%03d%s", i, strings.Repeat("x", size-3)), 0))
	}
	return l
}

// filling is files whose inside has just so many bytes, about 952: the names' lengths make it up.
func filling(size int) []api.File {
	l := empties(32, 26)
	for i := range size - len(modelInside(l)) {
		l[i].Name += "y"
	}
	return l
}

func isDir(t *testing.T, what any, got api.Dir, e api.Errno, want api.Dir) {
	t.Helper()
	if e != api.OK || !sameDir(got, want) {
		t.Errorf("%v: error %d, %v; want %v", what, e, got, want)
	}
}

func isNoDir(t *testing.T, what any, got api.Dir, e, want api.Errno) {
	t.Helper()
	if e != want || got.Gen != 0 || len(got.Files) != 0 {
		t.Errorf("%v: error %d, %v; want error %d and none", what, e, got, want)
	}
}

func isBytes(t *testing.T, what any, got []byte, e api.Errno, want string) {
	t.Helper()
	if e != api.OK || string(got) != want {
		t.Errorf("%v: error %d, %d bytes; want %d", what, e, len(got), len(want))
	}
}

func isNoBytes(t *testing.T, what any, got []byte, e, want api.Errno) {
	t.Helper()
	if e != want || len(got) != 0 {
		t.Errorf("%v: error %d, %d bytes; want error %d and none", what, e, len(got), want)
	}
}

func isRoom(t *testing.T, d api.Disk, want int) {
	t.Helper()
	if n, e := Room(d); n != want || e != api.OK {
		t.Errorf("Room: %d, error %d; want %d", n, e, want)
	}
}

func isRefused(t *testing.T, what any, d api.Disk, l []api.Change, want api.Errno) {
	t.Helper()
	if acts, e := Turn(d, l); e != want || len(acts) != 0 {
		t.Errorf("%v: error %d, %d acts; want error %d and none", what, e, len(acts), want)
	}
}

// shape tells acts in short: the sectors that are written, -1 for a flush.
func shape(l []api.Act) []int {
	var out []int
	for _, a := range l {
		if a.Flush {
			out = append(out, -1)
		} else {
			out = append(out, a.Put.Sector)
		}
	}
	return out
}

func TestExamples(t *testing.T) {
	d := formatted(t, 100)
	x, e := Mount(d)
	isDir(t, "Mount(D)", x, e, dir(1))
	isRoom(t, d, 20)
	if _, e := Format(95); e != api.ErrDisk {
		t.Errorf("Format(95): error %d", e)
	}
	nothing, _ := disk.New(100)
	x, e = Mount(nothing)
	isNoDir(t, "Mount of noughts", x, e, api.ErrMount)

	value := strings.Repeat("v", 130)
	acts, e := Turn(d, []api.Change{put("a", value)})
	if e != api.OK || !slices.Equal(shape(acts), []int{80, 81, -1, 8, 9, 10, 11, 12, 13, 14, 15, -1}) {
		t.Errorf("Turn(D, (a, 130 bytes)): error %d, %v", e, shape(acts))
	}
	d2 := done(t, d, put("a", value))
	x, e = Mount(d2)
	isDir(t, "behind it", x, e, dir(2, file("a", 130, 80, 2)))
	b, e := Get(d2, "a")
	isBytes(t, "Get(a)", b, e, value)
	isRoom(t, d2, 18)

	d3 := done(t, d2, gone("a"), put("b", ""))
	x, e = Mount(d3)
	isDir(t, "a gone, b of nothing", x, e, dir(3, file("b", 0)))
	x, e = Read(d3.Data[:kilo])
	isDir(t, "sectors 0 to 7", x, e, dir(3, file("b", 0)))

	isRefused(t, "x gone", d, []api.Change{gone("x")}, api.ErrNone)
	isRefused(t, "A", d, []api.Change{put("A", "")}, api.ErrName)
	isRefused(t, "a twice", d, []api.Change{put("a", ""), put("a", "")}, api.ErrBad)
	isRefused(t, "2561 bytes", d, []api.Change{put("a", strings.Repeat("v", 2561))}, api.ErrSpace)
	if _, e := Turn(d, []api.Change{put("a", strings.Repeat("v", 2560))}); e != api.OK {
		t.Errorf("2560 bytes: error %d", e)
	}
}

// goodDirs may be, and have bytes.
func goodDirs() []api.Dir {
	return []api.Dir{
		dir(1), dir(2), dir(topGen - 1), dir(topGen), {Gen: 7, Files: []api.File{}},
		dir(1, file("a", 0)), dir(1, file("a", 1, 80, 1)), dir(1, file("a", 127, 80, 1)), dir(1, file("a", 128, 80, 1)),
		dir(1, file("a", 129, 80, 2)), dir(1, file("a", 256, 80, 2)), dir(1, file("a", 257, 80, 1, 81, 1, 82, 1)),
		dir(1, file("a", 129, 4095, 1, 80, 1)), dir(1, file("a", 1, 4095, 1)), dir(1, file("a", 4016*128, 80, 4016)), dir(1, file("a", 4015*128+1, 80, 4016)),
		dir(1, file("a", 5*128, 90, 2, 80, 1, 200, 2), file("b", 128, 81, 1), file("c", 0), file("d", 300, 4000, 3)),
		dir(1, file("-", 0), file(".", 0), file("0", 0), file("9", 0), file("_", 0), file("a", 0), file("a-", 0), file("aa", 0), file("z", 0)),
		dir(1, file(strings.Repeat("a", 31), 0), file(strings.Repeat("a", 32), 0)),
		{Gen: 9, Files: empties(31, 3)}, {Gen: 9, Files: empties(32, 3)},
		{Gen: 9, Files: filling(951)}, {Gen: 9, Files: filling(952)},
	}
}

func TestWriteAndRead(t *testing.T) {
	for i, x := range goodDirs() {
		if !modelMayBe(x) {
			t.Fatalf("directory %d is none by the model", i)
		}
		b, e := Write(x)
		isBytes(t, i, b, e, string(modelBytes(x)))
		y, e := Read(modelBytes(x))
		isDir(t, i, y, e, x)
	}
}

// TestWrittenOut: the bytes by hand.
func TestWrittenOut(t *testing.T) {
	x := dir(258, file("ab", 130, 90, 1, 300, 1))
	b, e := Write(x)
	if e != api.OK || len(b) != kilo {
		t.Fatalf("error %d, %d bytes", e, len(b))
	}
	for i := range 8 {
		s := b[128*i : 128*i+128]
		if !bytes.Equal(s[:9], []byte{2, 1, 0, 0, 0, 0, 0, 0, byte(i)}) {
			t.Errorf("sector %d begins with %v", i, s[:9])
		}
		want := make([]byte, 119)
		if i == 0 {
			copy(want, []byte{1, 2, 'a', 'b', 130, 1, 2, 90, 1, 172, 2, 1})
		}
		if !bytes.Equal(s[9:], want) {
			t.Errorf("sector %d has %v", i, s[9:])
		}
	}
}

// badDirs may not be; each is one step away from one that may.
func badDirs() map[string]api.Dir {
	return map[string]api.Dir{
		"none": {}, "gen 0": dir(0, file("a", 0)), "gen below 0": dir(-1), "gen far below 0": dir(math.MinInt),
		"gen 2^62": dir(1 << 62), "gen above": dir(1<<62 + 1), "gen far above": dir(math.MaxInt),
		"empty name": dir(1, file("", 0)), "long name": dir(1, file(strings.Repeat("a", 33), 0)), "great letter": dir(1, file("aB", 0)),
		"blank": dir(1, file("a b", 0)), "nought": dir(1, file("a\x00", 0)), "no letter of these": dir(1, file("\xc3\xa4", 0)), "slash": dir(1, file("a/b", 0)),
		"names that fall": dir(1, file("b", 0), file("a", 0)), "a name twice": dir(1, file("a", 0), file("a", 0)),
		"names that fall behind others": dir(1, file("a", 0), file("c", 0), file("b", 0)), "a longer one first": dir(1, file("aa", 0), file("a", 0)),
		"second name none": dir(1, file("a", 0), file("b!", 0)),
		"size below 0":     dir(1, file("a", -1)), "size below 0 with a sector": dir(1, file("a", -1, 80, 1)), "size far below 0": dir(1, file("a", math.MinInt)),
		"size below 0 by a sector": dir(1, file("a", -128)), "size below 0 by less": dir(1, file("a", -127)),
		"the greatest size":     dir(1, file("a", 4096*128, 80, 4016)),
		"one past the greatest": dir(1, file("a", 4096*128+1, 80, 4016)), "the greatest with all sectors": dir(1, file("a", 4096*128, 0, 4096)),
		"a size far above": dir(1, file("a", math.MaxInt, 80, 1)), "one more than all sectors hold": dir(1, file("a", 4016*128+1, 80, 4016)),
		"no piece": dir(1, file("a", 1)), "a piece for nothing": dir(1, file("a", 0, 80, 1)),
		"one sector too many": dir(1, file("a", 128, 80, 2)), "one piece too many": dir(1, file("a", 128, 80, 1, 90, 1)), "one too few": dir(1, file("a", 129, 80, 1)),
		"piece below 80": dir(1, file("a", 1, 79, 1)), "piece from 0": dir(1, file("a", 1, 0, 1)), "second piece below 80": dir(1, file("a", 256, 80, 1, 16, 1)),
		"into 80 from below": dir(1, file("a", 256, 79, 2)), "piece below 0": dir(1, file("a", 1, -1, 1)),
		"piece of nothing": dir(1, file("a", 0, 80, 0)), "piece of nothing beside another": dir(1, file("a", 1, 80, 1, 90, 0)), "piece of less": dir(1, file("a", 128, 80, 2, 90, -1)),
		"piece at the end": dir(1, file("a", 1, 4096, 1)), "piece over the end": dir(1, file("a", 256, 4095, 2)), "piece far out": dir(1, file("a", 1, math.MaxInt, 1)),
		"counts that wrap round": dir(1, file("a", 128, 80, math.MaxInt, 90, math.MaxInt, 100, 3)),
		"a sector twice":         dir(1, file("a", 256, 80, 1, 80, 1)), "a sector of two files": dir(1, file("a", 256, 80, 2), file("b", 1, 81, 1)),
		"more pieces than sectors": {Gen: 1, Files: []api.File{{Name: "a", Size: 1, Pieces: make([]api.Piece, 4097)}}},
		"more pieces, that sum up": {Gen: 1, Files: []api.File{{Name: "a", Size: 1, Pieces: append(slices.Repeat(pieced(80, 0), 4096), api.Piece{From: 80, Count: 1})}}},
		"pieces changed about":     dir(1, file("a", 256, 80, 1), file("b", 1, 81, 2)),
	}
}

func TestWriteBad(t *testing.T) {
	for what, x := range badDirs() {
		if modelMayBe(x) {
			t.Fatalf("%s: may be by the model", what)
		}
		b, e := Write(x)
		isNoBytes(t, what, b, e, api.ErrBad)
	}
}

func TestWriteFull(t *testing.T) {
	b, e := Write(dir(9, filling(952)...))
	if e != api.OK || b[kilo-1] != 0 || len(modelInside(filling(952))) != 952 {
		t.Errorf("an inside of 952: error %d", e)
	}
	// One more: 33 of them, which no call looks further into; and an inside of one byte more.
	b, e = Write(dir(9, empties(33, 3)...))
	isNoBytes(t, "33 files", b, e, api.ErrFull)
	b, e = Write(dir(0, make([]api.File, 33)...))
	isNoBytes(t, "33 files that may not be", b, e, api.ErrFull)
	b, e = Write(dir(0, make([]api.File, 32)...))
	isNoBytes(t, "32 files that may not be", b, e, api.ErrBad)
	b, e = Write(dir(9, filling(953)...))
	isNoBytes(t, "an inside of 953", b, e, api.ErrFull)
	b, e = Write(dir(0, filling(953)...))
	isNoBytes(t, "an inside of 953 that may not be", b, e, api.ErrBad)
	b, e = Write(dir(9, empties(32, 32)...))
	isNoBytes(t, "the longest names", b, e, api.ErrFull)
	// Pieces fill it up too: 314 of three bytes each, and 2 + 3 + 2 bytes, behind the number of files.
	many := file("a", 314*128)
	for i := range 314 {
		many.Pieces = append(many.Pieces, api.Piece{From: 200 + 2*i, Count: 1})
	}
	b, e = Write(dir(9, many))
	isBytes(t, "many pieces", b, e, string(modelBytes(dir(9, many))))
	many.Size++
	many.Pieces = append(many.Pieces, api.Piece{From: 1000, Count: 1})
	b, e = Write(dir(9, many))
	isNoBytes(t, "one piece more", b, e, api.ErrFull)
}

// insideOf is bytes with any inside, the noughts behind it filled up.
func insideOf(gen uint64, in ...byte) []byte {
	return modelSectors(gen, append(in, make([]byte, 952-len(in))...))
}

func TestReadLength(t *testing.T) {
	b := modelBytes(dir(9, file("a", 0)))
	for _, n := range []int{0, 1, 8, 9, 127, 128, 1023} {
		x, e := Read(b[:n])
		isNoDir(t, n, x, e, api.ErrBad)
	}
	x, e := Read(b[:1024])
	isDir(t, 1024, x, e, dir(9, file("a", 0)))
	for _, n := range []int{1, 128, 1024} {
		x, e := Read(append(bytes.Clone(b), make([]byte, n)...))
		isNoDir(t, 1024+n, x, e, api.ErrBad)
	}
	x, e = Read(nil)
	isNoDir(t, "nil", x, e, api.ErrBad)
	x, e = Read(make([]byte, 1024))
	isNoDir(t, "noughts", x, e, api.ErrBad)
}

func TestReadGens(t *testing.T) {
	for gen, want := range map[uint64]api.Errno{0: api.ErrBad, 1: api.OK, topGen: api.OK, 1 << 62: api.ErrBad, 1 << 63: api.ErrBad, 1<<63 + 5: api.ErrBad, math.MaxUint64: api.ErrBad} {
		x, e := Read(insideOf(gen, 0))
		if want == api.OK {
			isDir(t, gen, x, e, dir(int(gen)))
		} else {
			isNoDir(t, gen, x, e, want)
		}
	}
	// One sector that differs, in its Gen or in its number.
	for i := range 8 {
		for k := range 9 {
			for _, change := range []byte{1, 2, 128} {
				b := modelBytes(dir(300, file("a", 0)))
				b[128*i+k] ^= change
				x, e := Read(b)
				isNoDir(t, fmt.Sprint("sector ", i, " byte ", k), x, e, api.ErrBad)
			}
		}
	}
	// Two that have changed places.
	b := modelBytes(dir(300, file("a", 0)))
	c := bytes.Clone(b)
	copy(c[128*2:128*3], b[128*3:128*4])
	copy(c[128*3:128*4], b[128*2:128*3])
	x, e := Read(c)
	isNoDir(t, "changed places", x, e, api.ErrBad)
}

func TestReadInside(t *testing.T) {
	for what, b := range map[string][]byte{
		"one nought that is none, the first":   insideOf(1, 0, 1),
		"one nought that is none, of a file":   insideOf(1, 1, 1, 'a', 0, 0, 0, 7),
		"a number of files in two bytes":       insideOf(1, 128, 0),
		"a length of a name in two bytes":      insideOf(1, 1, 129, 0, 'a', 0, 0),
		"a size in two bytes":                  insideOf(1, 1, 1, 'a', 128, 0, 0),
		"a number of pieces in two bytes":      insideOf(1, 1, 1, 'a', 0, 128, 0),
		"a from in two bytes":                  insideOf(1, 1, 1, 'a', 1, 1, 208, 0, 1),
		"a count in two bytes":                 insideOf(1, 1, 1, 'a', 1, 1, 80, 129, 0),
		"a name that goes on behind all":       insideOf(1, 1, 200, 7),
		"a name of 2^64 - 1":                   insideOf(1, 1, 255, 255, 255, 255, 255, 255, 255, 255, 255, 1),
		"a size of 2^64 - 1":                   insideOf(1, 1, 1, 'a', 255, 255, 255, 255, 255, 255, 255, 255, 255, 1, 0),
		"a size of 2^64":                       insideOf(1, 1, 1, 'a', 128, 128, 128, 128, 128, 128, 128, 128, 128, 2, 0),
		"a size of 2^32":                       insideOf(1, 1, 1, 'a', 128, 128, 128, 128, 16, 0),
		"2^64 - 1 files":                       insideOf(1, 255, 255, 255, 255, 255, 255, 255, 255, 255, 1),
		"2^64 - 1 pieces":                      insideOf(1, 1, 1, 'a', 0, 255, 255, 255, 255, 255, 255, 255, 255, 255, 1),
		"a from of 2^63 + 80":                  insideOf(1, 1, 1, 'a', 1, 1, 208, 128, 128, 128, 128, 128, 128, 128, 128, 1, 1),
		"a from of 2^32 + 80":                  insideOf(1, 1, 1, 'a', 1, 1, 208, 128, 128, 128, 16, 1),
		"a count of 2^64 - 1":                  insideOf(1, 1, 1, 'a', 1, 2, 80, 2, 90, 255, 255, 255, 255, 255, 255, 255, 255, 255, 1),
		"500 pieces of noughts":                insideOf(1, 1, 1, 'a', 0, 244, 3),
		"300 pieces of noughts":                insideOf(1, 1, 1, 'a', 0, 172, 2),
		"fewer files than told":                insideOf(1, 2, 1, 'a', 0, 0),
		"more files than told":                 insideOf(1, 1, 1, 'a', 0, 0, 1, 'b', 0, 0),
		"a name of nothing":                    insideOf(1, 1, 0, 0, 0),
		"names that fall":                      insideOf(1, 2, 1, 'b', 0, 0, 1, 'a', 0, 0),
		"a name twice":                         insideOf(1, 2, 1, 'a', 0, 0, 1, 'a', 0, 0),
		"a great letter":                       insideOf(1, 1, 1, 'A', 0, 0),
		"a piece below 80":                     insideOf(1, 1, 1, 'a', 1, 1, 79, 1),
		"a piece of nothing":                   insideOf(1, 1, 1, 'a', 0, 1, 80, 0),
		"a sector twice":                       insideOf(1, 2, 1, 'a', 1, 1, 80, 1, 1, 'b', 1, 1, 80, 1),
		"too few sectors":                      insideOf(1, 1, 1, 'a', 129, 1, 1, 80, 1),
		"too many sectors":                     insideOf(1, 1, 1, 'a', 1, 1, 80, 2),
		"a piece at 4096":                      insideOf(1, 1, 1, 'a', 1, 1, 128, 32, 1),
		"33 files":                             insideOf(1, modelInside(empties(33, 3))...),
		"the last byte of all, none":           insideOf(1, append(make([]byte, 951), 1)...),
		"the last byte of a part, none":        insideOf(1, append(make([]byte, 118), 1)...),
		"the first byte of another part, none": insideOf(1, append(make([]byte, 119), 1)...),
	} {
		x, e := Read(b)
		isNoDir(t, what, x, e, api.ErrBad)
	}
	x, e := Read(insideOf(1, 1, 1, 'a', 1, 1, 80, 1))
	isDir(t, "a file", x, e, dir(1, file("a", 1, 80, 1)))
	x, e = Read(insideOf(1, 1, 1, 'a', 1, 1, 255, 31, 1))
	isDir(t, "a piece at 4095", x, e, dir(1, file("a", 1, 4095, 1)))
	x, e = Read(insideOf(1, modelInside(empties(32, 3))...))
	isDir(t, "32 files", x, e, dir(1, empties(32, 3)...))
}

// TestReadInsideThatEnds: an inside of all 952 bytes, cut off in a number, a name, a piece.
func TestReadInsideThatEnds(t *testing.T) {
	full := modelInside(filling(952))
	x, e := Read(modelSectors(3, full))
	isDir(t, "just 952", x, e, dir(3, filling(952)...))
	longer := modelInside(filling(953))
	x, e = Read(modelSectors(3, longer[:952]))
	isNoDir(t, "953 cut off", x, e, api.ErrBad)
	for _, end := range [][]byte{{255}, {128}, {1}, {0}, {1, 'z'}, {1, 'z', 128}, {1, 'z', 0}, {1, 'z', 0, 129}, {1, 'z', 1, 1}, {1, 'z', 1, 1, 255}, {1, 'z', 1, 1, 80}, {1, 'z', 1, 1, 80, 129}} {
		x, e := Read(endingWith(end))
		isNoDir(t, end, x, e, api.ErrBad)
	}
	for _, end := range [][]byte{{1, 'z', 0, 0}, {1, 'z', 1, 1, 80, 1}} {
		if x, e := Read(endingWith(end)); e != api.OK || len(x.Files) != 32 {
			t.Errorf("%v: error %d, %v", end, e, x)
		}
	}
}

// endingWith is bytes with an inside of just 952 bytes, whose last ones are those of the last file, or what there is of it.
func endingWith(end []byte) []byte {
	l := empties(31, 26)
	for i := range 952 - len(end) - len(modelInside(l)) {
		l[i%31].Name += "y"
	}
	in := append(modelInside(l), end...)
	in[0] = 32
	return modelSectors(3, in)
}

// TestReadByModel: drawn directories with some bytes changed.
func TestReadByModel(t *testing.T) {
	r := rand.New(rand.NewSource(45))
	good := goodDirs()
	held := 0
	for round := range 60000 {
		x := good[r.Intn(len(good))]
		b := modelBytes(x)
		for range r.Intn(3) {
			i := r.Intn(kilo)
			if r.Intn(3) > 0 {
				i = 9 + r.Intn(40)
			}
			if r.Intn(2) == 0 {
				b[i] = byte(r.Intn(256))
			} else {
				b[i] += byte(r.Intn(3)) - 1
			}
		}
		want, ok := modelRead(b)
		got, e := Read(b)
		if ok {
			held++
			isDir(t, round, got, e, want)
		} else {
			isNoDir(t, round, got, e, api.ErrBad)
		}
	}
	if held < 20000 || held > 55000 {
		t.Errorf("%d of them held", held)
	}
}

// TestWriteByModel: drawn directories, many of which may not be.
func TestWriteByModel(t *testing.T) {
	r := rand.New(rand.NewSource(46))
	held := 0
	for round := range 30000 {
		x := dir(1 + r.Intn(3))
		if r.Intn(20) == 0 {
			x.Gen = r.Intn(3) - 1
		}
		name, from := "", 80
		for range r.Intn(5) {
			if name += string("abc"[r.Intn(3)]); r.Intn(8) == 0 {
				name = string("abc"[r.Intn(3)])
			}
			f := api.File{Name: name}
			many := r.Intn(4)
			for left := many; left > 0; {
				k := 1 + r.Intn(left)
				f.Pieces = append(f.Pieces, api.Piece{From: from + r.Intn(2), Count: k})
				from += k + r.Intn(3)
				left -= k
			}
			if f.Size = many * 128; many > 0 && r.Intn(2) == 0 {
				f.Size -= r.Intn(130)
			}
			x.Files = append(x.Files, f)
		}
		b, e := Write(x)
		if modelMayBe(x) {
			held++
			isBytes(t, round, b, e, string(modelBytes(x)))
			y, e := Read(b)
			isDir(t, round, y, e, x)
		} else {
			isNoBytes(t, round, b, e, api.ErrBad)
		}
	}
	if held < 5000 || held > 28000 {
		t.Errorf("%d of them held", held)
	}
}

func TestFormat(t *testing.T) {
	for _, count := range []int{96, 97, 100, 4095, 4096} {
		d := formatted(t, count)
		want := make([]byte, count*128)
		copy(want, modelBytes(dir(1)))
		if d.Count != count || !bytes.Equal(d.Data, want) || len(d.Waits) != 0 {
			t.Errorf("Format(%d) is another disk", count)
		}
		x, e := Mount(d)
		isDir(t, count, x, e, dir(1))
		isRoom(t, d, count-80)
		if l, e := Names(d); e != api.OK || len(l) != 0 {
			t.Errorf("Names: %v, error %d", l, e)
		}
	}
	for _, count := range []int{95, 80, 16, 1, 0, -1, math.MinInt, 4097, 5000, math.MaxInt} {
		d, e := Format(count)
		if e != api.ErrDisk || d.Count != 0 || len(d.Data) != 0 || len(d.Waits) != 0 {
			t.Errorf("Format(%d): error %d, %d sectors", count, e, d.Count)
		}
	}
}

// noDisks may not be disks.
func noDisks(t *testing.T) map[string]api.Disk {
	d := formatted(t, 100)
	return map[string]api.Disk{
		"none": {}, "no sectors": {Count: 100}, "a byte too few": {Count: 100, Data: d.Data[1:]}, "sectors too many": {Count: 99, Data: d.Data},
		"too many": {Count: 4097, Data: make([]byte, 4097*128)}, "below 0": {Count: -1},
		"a write out of it":    {Count: 100, Data: d.Data, Waits: []api.Put{{Sector: 100, Data: make([]byte, 128)}}},
		"a write too short":    {Count: 100, Data: d.Data, Waits: []api.Put{{Sector: 1, Data: make([]byte, 127)}}},
		"too many writes wait": {Count: 100, Data: d.Data, Waits: slices.Repeat([]api.Put{{Sector: 1, Data: make([]byte, 128)}}, 4097)},
	}
}

// unmounted are disks without a directory.
func unmounted(t *testing.T) map[string]api.Disk {
	d := formatted(t, 100)
	nothing, _ := disk.New(100)
	small, _ := disk.New(95)
	one, _ := disk.New(1)
	fifteen, _ := disk.New(15)
	torn := modelBytes(dir(5))
	torn[130]++
	out := map[string]api.Disk{
		"noughts": nothing, "95 sectors": laid(small, 0, modelBytes(dir(1))), "one sector": one, "15 sectors": fifteen,
		"95 sectors, second slot": laid(small, 8, modelBytes(dir(1))),
		"both torn":               laid(laid(d, 0, torn), 8, torn),
		"one torn":                laid(d, 0, torn),
		"a slot one too late":     laid(nothing, 1, modelBytes(dir(1))),
		"a slot that is shorter":  laid(d, 0, modelBytes(dir(1, file("a", 1, 100, 1)))),
		"both beyond the disk":    laid(laid(d, 0, modelBytes(dir(1, file("a", 256, 99, 2)))), 8, modelBytes(dir(2, file("a", 1, 4095, 1)))),
	}
	waits, _ := disk.Write(d, 3, make([]byte, 128))
	out["a write over it waits"] = waits
	return out
}

// TestMountFirst: all that stand on a disk answer Mount's errors first.
func TestMountFirst(t *testing.T) {
	wrong := [][]api.Change{nil, make([]api.Change, 65), {put("A", "")}, {put("a", ""), put("a", "")}, {gone("x")}, {put("a", strings.Repeat("v", 9000))}}
	try := func(what string, d api.Disk, want api.Errno) {
		t.Helper()
		x, e := Mount(d)
		isNoDir(t, what, x, e, want)
		for _, l := range wrong {
			isRefused(t, what, d, l, want)
		}
		for _, name := range []string{"a", "A", ""} {
			b, e := Get(d, name)
			isNoBytes(t, what, b, e, want)
		}
		if l, e := Names(d); e != want || len(l) != 0 {
			t.Errorf("%s: Names: error %d, %v", what, e, l)
		}
		if n, e := Room(d); e != want || n != 0 {
			t.Errorf("%s: Room: error %d, %d", what, e, n)
		}
	}
	for what, d := range noDisks(t) {
		try(what, d, api.ErrDisk)
	}
	for what, d := range unmounted(t) {
		if _, _, ok := modelMount(d); ok {
			t.Fatalf("%s: the model mounts it", what)
		}
		try(what, d, api.ErrMount)
	}
}

func TestMountSlots(t *testing.T) {
	nothing, _ := disk.New(120)
	a, b := dir(5, file("a", 1, 80, 1)), dir(9, file("b", 256, 82, 1, 119, 1))
	early, late := modelBytes(a), modelBytes(b)
	like := dir(9, file("c", 0))
	for what, c := range map[string]struct {
		first, second []byte
		want          api.Dir
		other         int
	}{
		"the first alone":           {early, nil, a, 8},
		"the second alone":          {nil, early, a, 0},
		"the greater in the second": {early, late, b, 0},
		"the greater in the first":  {late, early, b, 8},
		"like ones":                 {late, modelBytes(like), b, 8},
		"like ones, turned":         {modelBytes(like), late, like, 8},
		"greater by one":            {modelBytes(dir(topGen - 1)), modelBytes(dir(topGen)), dir(topGen), 0},
		"the greater does not hold": {early, late[1:], a, 8},
		"the greater is torn":       {append(late[:1023:1023], 1), early, a, 0},
		"beyond the disk":           {early, modelBytes(dir(9, file("b", 256, 82, 1, 120, 1))), a, 8},
		"over its end":              {modelBytes(dir(9, file("b", 256, 119, 2))), early, a, 0},
		"up to its end":             {modelBytes(dir(9, file("b", 256, 118, 2))), early, dir(9, file("b", 256, 118, 2)), 8},
	} {
		d := laid(laid(nothing, 0, c.first), 8, c.second)
		x, e := Mount(d)
		isDir(t, what, x, e, c.want)
		acts, e := Turn(d, nil)
		if c.want.Gen < topGen && (e != api.OK || len(acts) != 9 || acts[0].Put.Sector != c.other) {
			t.Errorf("%s: Turn: error %d, %v", what, e, shape(acts))
		}
	}
}

// TestMountNow: what waits counts, for slots and for files.
func TestMountNow(t *testing.T) {
	d := done(t, formatted(t, 100), put("a", "old"))
	acts, _ := Turn(d, []api.Change{put("a", "new"), put("b", "b")})
	x := d
	for _, a := range acts {
		if !a.Flush {
			x, _ = disk.Write(x, a.Put.Sector, a.Put.Data)
		}
	}
	y, e := Mount(x)
	isDir(t, "waits", y, e, dir(3, file("a", 3, 81, 1), file("b", 1, 82, 1)))
	b, e := Get(x, "a")
	isBytes(t, "a", b, e, "new")
	isRoom(t, x, 18)
	x, _ = disk.Write(x, 81, []byte("other"+strings.Repeat("o", 123)))
	b, e = Get(x, "a")
	isBytes(t, "a anew", b, e, "oth")
	// The turn that comes writes into the slot that does not count now, and where no file is now.
	acts, e = Turn(x, []api.Change{put("c", "c")})
	if e != api.OK || !slices.Equal(shape(acts), []int{80, -1, 8, 9, 10, 11, 12, 13, 14, 15, -1}) {
		t.Errorf("Turn: error %d, %v", e, shape(acts))
	}
}

func TestTurnNothing(t *testing.T) {
	d := formatted(t, 96)
	for _, l := range [][]api.Change{nil, {}} {
		acts, e := Turn(d, l)
		if e != api.OK || !slices.Equal(shape(acts), []int{8, 9, 10, 11, 12, 13, 14, 15, -1}) {
			t.Errorf("Turn of nothing: error %d, %v", e, shape(acts))
		}
	}
	x, e := Mount(done(t, d))
	isDir(t, "behind it", x, e, dir(2))
	// Files of no bytes have no sector: no flush ahead of the directory's.
	acts, e := Turn(d, []api.Change{put("a", ""), put("b", "")})
	if e != api.OK || len(acts) != 9 {
		t.Errorf("empty files: error %d, %v", e, shape(acts))
	}
	x, e = Mount(done(t, d, put("b", ""), put("a", "")))
	isDir(t, "empty files", x, e, dir(2, file("a", 0), file("b", 0)))
}

// TestTurnActs: the acts byte by byte: in the order of the changes, the last sector filled up.
func TestTurnActs(t *testing.T) {
	d := formatted(t, 100)
	l := []api.Change{put("z", strings.Repeat("z", 129)), put("m", strings.Repeat("m", 128)), put("e", ""), put("a", "a")}
	acts, e := Turn(d, l)
	if e != api.OK || !slices.Equal(shape(acts), []int{80, 81, 82, 83, -1, 8, 9, 10, 11, 12, 13, 14, 15, -1}) {
		t.Fatalf("error %d, %v", e, shape(acts))
	}
	for i, want := range []string{strings.Repeat("z", 128), "z" + strings.Repeat("\x00", 127), strings.Repeat("m", 128), "a" + strings.Repeat("\x00", 127)} {
		if string(acts[i].Put.Data) != want {
			t.Errorf("sector %d: %q", acts[i].Put.Sector, acts[i].Put.Data)
		}
	}
	want := modelBytes(dir(2, file("a", 1, 83, 1), file("e", 0), file("m", 128, 82, 1), file("z", 129, 80, 2)))
	for i := range 8 {
		if !bytes.Equal(acts[5+i].Put.Data, want[128*i:128*i+128]) {
			t.Errorf("part %d of the directory: %v", i, acts[5+i].Put.Data)
		}
	}
	for _, i := range []int{4, 13} {
		if acts[i].Put.Sector != 0 || len(acts[i].Put.Data) != 0 {
			t.Errorf("a flush with a write: %v", acts[i])
		}
	}
}

// TestTurnTakes: what is taken away in a turn is free behind it, not within.
func TestTurnTakes(t *testing.T) {
	d := done(t, formatted(t, 96), put("a", strings.Repeat("a", 512)), put("b", strings.Repeat("b", 512)), put("c", strings.Repeat("c", 512)))
	isRoom(t, d, 4)
	isRefused(t, "a anew, longer", d, []api.Change{put("a", strings.Repeat("n", 513))}, api.ErrSpace)
	isRefused(t, "in place of b", d, []api.Change{gone("b"), put("n", strings.Repeat("n", 513))}, api.ErrSpace)
	isRefused(t, "two, one too much", d, []api.Change{put("n", strings.Repeat("n", 512)), put("o", "o")}, api.ErrSpace)
	d = done(t, d, gone("b"), put("a", "short"))
	isRoom(t, d, 11)
	x, e := Mount(d)
	isDir(t, "a anew", x, e, dir(3, file("a", 5, 92, 1), file("c", 512, 88, 4)))
	d = done(t, d, put("l", strings.Repeat("l", 11*128)))
	isRoom(t, d, 0)
	x, e = Mount(d)
	isDir(t, "in two pieces", x, e, dir(4, file("a", 5, 92, 1), file("c", 512, 88, 4), file("l", 11*128, 80, 8, 93, 3)))
	b, e := Get(d, "l")
	isBytes(t, "l", b, e, strings.Repeat("l", 11*128))
	isRefused(t, "no sector", d, []api.Change{put("n", "n")}, api.ErrSpace)
	d = done(t, d, put("n", ""))
	b, e = Get(d, "n")
	isBytes(t, "n", b, e, "")
}

func TestTurnLong(t *testing.T) {
	d := formatted(t, 4096)
	all := strings.Repeat("0123456789abcde", 4016*128/15+1)[:4016*128]
	x := done(t, d, put("a", all))
	b, e := Get(x, "a")
	isBytes(t, "all sectors", b, e, all)
	isRoom(t, x, 0)
	for _, n := range []int{4016*128 + 1, 4095*128 + 1, 4096 * 128, 4096*128 + 1, 4097*128 + 1, 1 << 22} {
		long := strings.Repeat("l", n)
		isRefused(t, n, d, []api.Change{put("a", long)}, api.ErrSpace)
		// What is gone has no bytes.
		acts, e := Turn(x, []api.Change{{Key: "a", Value: long, Gone: true}})
		if e != api.OK || len(acts) != 9 {
			t.Errorf("gone with %d bytes: error %d, %d acts", n, e, len(acts))
		}
	}
}

func TestTurnMany(t *testing.T) {
	d := formatted(t, 200)
	var first, second []api.Change
	for i := range 32 {
		first = append(first, put(fmt.Sprintf("a%02d", i), fmt.Sprint("value ", i)))
		second = append(second, put(fmt.Sprintf("b%02d", i), fmt.Sprint("other ", i)))
	}
	isRefused(t, "33 files", d, append(slices.Clone(first), put("x", "")), api.ErrFull)
	full := done(t, d, first...)
	isRefused(t, "one more", full, []api.Change{put("x", "")}, api.ErrFull)
	isRefused(t, "two for one", full, []api.Change{put("x", ""), gone("a00"), put("y", "")}, api.ErrFull)
	swapped := done(t, full, put("x", "x"), gone("a00"))
	if l, _ := Names(swapped); len(l) != 32 || l[0] != "a01" || l[31] != "x" {
		t.Errorf("one for one: %v", l)
	}
	anew := done(t, full, put("a07", "anew"))
	b, e := Get(anew, "a07")
	isBytes(t, "one anew", b, e, "anew")

	// 64 changes: all away, as many others put.
	all := slices.Clone(second)
	for _, c := range first {
		all = append(all, gone(c.Key))
	}
	other := done(t, full, all...)
	if l, _ := Names(other); len(l) != 32 || l[0] != "b00" || l[31] != "b31" {
		t.Errorf("all others: %v", l)
	}
	isRefused(t, "65 changes", full, append(slices.Clone(all), put("A", "")), api.ErrMany)
	isRefused(t, "64 changes with none", full, append(slices.Clone(all[1:]), put("A", "")), api.ErrName)
	isRefused(t, "65 of nothing", full, make([]api.Change, 65), api.ErrMany)
}

// TestTurnErrors: of several the first one, in the order of the promise.
func TestTurnErrors(t *testing.T) {
	d := done(t, formatted(t, 100), put("a", "a"), put("b", "b"))
	long := strings.Repeat("l", 19*128)
	var names, full []api.Change
	for i := range 32 {
		names = append(names, put(fmt.Sprintf("%032d", i), ""))
		full = append(full, put(fmt.Sprintf("f%d", i), ""))
	}
	with := func(l []api.Change, more ...api.Change) []api.Change { return append(slices.Clone(l), more...) }
	for what, c := range map[string]struct {
		l    []api.Change
		want api.Errno
	}{
		"no name":                                {[]api.Change{put("", "")}, api.ErrName},
		"no name, gone":                          {[]api.Change{gone("")}, api.ErrName},
		"33 bytes":                               {[]api.Change{put(strings.Repeat("a", 33), "")}, api.ErrName},
		"32 bytes":                               {[]api.Change{put(strings.Repeat("a", 32), "")}, api.OK},
		"33 bytes, gone":                         {[]api.Change{gone(strings.Repeat("a", 33))}, api.ErrName},
		"blank":                                  {[]api.Change{put("a b", "")}, api.ErrName},
		"second no name":                         {[]api.Change{put("c", ""), put("C", "")}, api.ErrName},
		"no name twice":                          {[]api.Change{put("C", ""), put("C", "")}, api.ErrName},
		"not there":                              {[]api.Change{gone("c")}, api.ErrNone},
		"there":                                  {[]api.Change{gone("a"), gone("b")}, api.OK},
		"put and gone":                           {[]api.Change{put("c", ""), gone("c")}, api.ErrBad},
		"gone and put":                           {[]api.Change{gone("a"), put("a", "")}, api.ErrBad},
		"gone twice":                             {[]api.Change{gone("a"), gone("a")}, api.ErrBad},
		"twice, apart":                           {[]api.Change{gone("a"), put("c", ""), put("b", ""), gone("a")}, api.ErrBad},
		"not there, then no name":                {[]api.Change{gone("c"), put("C", "")}, api.ErrNone},
		"no name, then not there":                {[]api.Change{put("C", ""), gone("c")}, api.ErrName},
		"twice, then no name":                    {[]api.Change{put("c", ""), put("c", ""), put("C", "")}, api.ErrBad},
		"not there, then twice":                  {[]api.Change{gone("c"), gone("c")}, api.ErrNone},
		"not there, then too long":               {[]api.Change{put("c", long), gone("d")}, api.ErrNone},
		"no name behind too long":                {[]api.Change{put("c", long), put("", "")}, api.ErrName},
		"twice, and too long":                    {[]api.Change{put("c", long), put("c", "")}, api.ErrBad},
		"too many files, and too long":           {with(full, put("long", long)), api.ErrFull},
		"just too many files, and too long":      {with(full[:30], put("long", long)), api.ErrFull},
		"just not too many files, but too long":  {with(full[:29], put("long", long)), api.ErrSpace},
		"too many files, and not there":          {with(full, gone("none")), api.ErrNone},
		"too many files, and no name":            {with(full, put("", "")), api.ErrName},
		"too many files, and twice":              {with(full, put("f3", "")), api.ErrBad},
		"too many changes, and no name":          {with([]api.Change{put("", "")}, make([]api.Change, 64)...), api.ErrMany},
		"too long":                               {[]api.Change{put("c", long)}, api.ErrSpace},
		"just not too long":                      {[]api.Change{put("c", long[:18*128])}, api.OK},
		"names too long":                         {with(names, gone("a"), gone("b")), api.ErrFull},
		"names too long, and no room":            {with(names[:28], gone("a"), gone("b"), put("c", long)), api.ErrSpace},
		"names too long, and too many of them":   {names, api.ErrFull},
		"the same names, fewer":                  {with(names[:20], gone("a"), gone("b")), api.OK},
		"one of them is longer than what's left": {[]api.Change{put("c", long[:10*128]), put("d", long[:9*128])}, api.ErrSpace},
	} {
		if c.want == api.OK {
			if _, e := Turn(d, c.l); e != api.OK {
				t.Errorf("%s: error %d", what, e)
			}
			continue
		}
		isRefused(t, what, d, c.l, c.want)
		if _, e := modelTurn(d, c.l); e != c.want {
			t.Errorf("%s: %d by the model", what, e)
		}
	}
}

// TestTurnFullOfPieces: a disk so parted that the directory has no place for the pieces of a file.
func TestTurnFullOfPieces(t *testing.T) {
	d := formatted(t, 2000)
	comb := dir(7)
	// Every second sector is in use, by a piece of one of 8 files.
	for i := range 8 {
		f := file(fmt.Sprint("f", i), 36*128)
		for k := range 36 {
			f.Pieces = append(f.Pieces, api.Piece{From: 80 + 2*(36*i+k), Count: 1})
		}
		comb.Files = append(comb.Files, f)
	}
	d = laid(d, 0, modelBytes(comb))
	got := len(modelInside(comb.Files))
	for _, c := range []struct {
		many int
		want api.Errno
	}{{1, api.OK}, {10, api.OK}, {200, api.ErrFull}, {1632, api.ErrFull}, {1633, api.ErrSpace}} {
		l := []api.Change{put("new", strings.Repeat("n", c.many*128))}
		want, e := modelTurn(d, l)
		acts, f := Turn(d, l)
		if e != c.want || f != c.want || !isActs(t, c.many, acts, want) {
			t.Errorf("%d sectors beside %d bytes: error %d, %d by the model, want %d", c.many, got, f, e, c.want)
		}
	}
	// All of the sectors that lie between are one file's: it is read in its order.
	x := done(t, d, gone("f0"), gone("f1"), gone("f2"), gone("f3"), put("new", strings.Repeat("0123456789", 600)))
	b, e := Get(x, "new")
	isBytes(t, "new", b, e, strings.Repeat("0123456789", 600))
}

// begun is a disk whose directory has this Gen and stands in the slot at at, and of whose other slot one sector begins with a number.
func begun(t *testing.T, gen, at, sector int, n uint64) api.Disk {
	nothing, _ := disk.New(100)
	d := laid(nothing, at, modelBytes(dir(gen)))
	binary.LittleEndian.PutUint64(d.Data[128*(8-at+sector):], n)
	return d
}

func TestTurnGen(t *testing.T) {
	for _, c := range []struct {
		gen  int
		n    uint64
		want int // 0: ErrFull
	}{
		{1, 0, 2}, {1, 1, 2}, {1, 2, 3}, {9, 8, 10}, {9, 9, 10}, {9, 10, 11}, {9, 1 << 40, 1<<40 + 1},
		{9, topGen - 1, topGen}, {9, topGen, 0}, {9, topGen + 1, 10}, {9, topGen + 2, 10}, {9, 1 << 63, 10}, {9, 1<<63 + 20, 10}, {9, math.MaxUint64, 10},
		{topGen - 2, 0, topGen - 1}, {topGen - 1, 0, topGen}, {topGen, 0, 0}, {topGen, math.MaxUint64, 0}, {topGen - 1, topGen + 1, topGen}, {topGen - 1, topGen, 0},
	} {
		for sector := range 8 {
			for _, at := range []int{0, 8} {
				d := begun(t, c.gen, at, sector, c.n)
				l := []api.Change{put("a", "v")}
				if c.want == 0 {
					isRefused(t, c, d, l, api.ErrFull)
					isRefused(t, "and no room", d, []api.Change{put("a", strings.Repeat("v", 21*128))}, api.ErrSpace)
					isRefused(t, "and no name", d, []api.Change{put("A", "")}, api.ErrName)
					continue
				}
				x, e := Mount(done(t, d, l...))
				isDir(t, c, x, e, dir(c.want, file("a", 1, 80, 1)))
			}
		}
	}
}

// TestTurnGenOfAll: the greatest counts, wherever it stands, and only of the first eight bytes of the other slot's sectors.
func TestTurnGenOfAll(t *testing.T) {
	d := formatted(t, 100)
	for i := range 8 {
		binary.LittleEndian.PutUint64(d.Data[128*(8+i):], uint64(100+i*i%7))
		binary.LittleEndian.PutUint64(d.Data[128*(8+i)+8:], 5000)
	}
	binary.LittleEndian.PutUint64(d.Data[128*16:], 6000)
	x, e := Mount(done(t, d))
	isDir(t, "the greatest", x, e, dir(105))
	// As they are now: a write that waits counts.
	s := make([]byte, 128)
	binary.LittleEndian.PutUint64(s, 300)
	w, _ := disk.Write(d, 11, s)
	x, e = Mount(done(t, w))
	isDir(t, "one that waits", x, e, dir(301))
	clear(s)
	for i := range 8 {
		w, _ = disk.Write(w, 8+i, s)
	}
	x, e = Mount(done(t, w))
	isDir(t, "noughts that wait", x, e, dir(2))
}

func TestGet(t *testing.T) {
	d := done(t, formatted(t, 100), put("b", "bytes"), put("n", ""), put("full", strings.Repeat("f", 256)))
	for name, want := range map[string]string{"b": "bytes", "n": "", "full": strings.Repeat("f", 256)} {
		b, e := Get(d, name)
		isBytes(t, name, b, e, want)
	}
	for name, want := range map[string]api.Errno{
		"a": api.ErrNone, "c": api.ErrNone, "bb": api.ErrNone, "ful": api.ErrNone, strings.Repeat("b", 32): api.ErrNone, "-": api.ErrNone, ".": api.ErrNone, "_": api.ErrNone,
		"": api.ErrName, "B": api.ErrName, "b ": api.ErrName, "b/": api.ErrName, "b\x00": api.ErrName, "\xc3\xa4": api.ErrName, strings.Repeat("b", 33): api.ErrName,
	} {
		b, e := Get(d, name)
		isNoBytes(t, name, b, e, want)
	}
	for c := range 256 {
		want := api.ErrName
		if c < 128 && strings.ContainsRune(alphabet, rune(c)) {
			want = api.ErrNone
		}
		b, e := Get(d, "x"+string([]byte{byte(c)})+"x")
		isNoBytes(t, c, b, e, want)
	}
	// A piece's order is the file's, not the disk's.
	data := strings.Repeat("1", 128) + strings.Repeat("2", 128)
	x := laid(laid(formatted(t, 100), 0, modelBytes(dir(4, file("a", 200, 91, 1, 90, 1)))), 90, []byte(data))
	b, e := Get(x, "a")
	isBytes(t, "pieces", b, e, strings.Repeat("2", 128)+strings.Repeat("1", 72))
}

func TestNames(t *testing.T) {
	d := done(t, formatted(t, 100), put("b", ""), put("a.b", "x"), put("a", ""), put("a-b", ""), put("a_b", ""), put("0", ""), put("ab", ""))
	l, e := Names(d)
	if e != api.OK || !slices.Equal(l, []string{"0", "a", "a-b", "a.b", "a_b", "ab", "b"}) {
		t.Errorf("error %d, %v", e, l)
	}
}

// guarded is a copy with room behind it that must stay as it is.
func guarded[T any](l []T, mark T) []T {
	out := append(slices.Clone(l), mark, mark, mark)
	return out[:len(l)]
}

// TestOnlyRead: what is handed in, and its spare room, stays as it was.
func TestOnlyRead(t *testing.T) {
	d := done(t, formatted(t, 100), put("a", strings.Repeat("a", 300)), put("b", "b"))
	acts, _ := Turn(d, []api.Change{put("b", "waits")})
	w := api.Put{Sector: 7, Data: []byte("mark")}
	var waits []api.Put
	for _, a := range acts {
		if !a.Flush {
			waits = append(waits, api.Put{Sector: a.Put.Sector, Data: guarded(a.Put.Data, 77)})
		}
	}
	d = api.Disk{Count: 100, Data: guarded(d.Data, 77), Waits: guarded(waits, w)}
	l := guarded([]api.Change{put("z", "z"), gone("a"), put("c", strings.Repeat("c", 200)), put("b", "anew")}, put("mark", "mark"))
	x := dir(5, file("a", 256, 90, 1, 80, 1), file("b", 1, 81, 1))
	for i := range x.Files {
		x.Files[i].Pieces = guarded(x.Files[i].Pieces, api.Piece{From: 7, Count: 7})
	}
	x.Files = guarded(x.Files, file("mark", 7))
	b := guarded(modelBytes(x), 77)
	told := func() string {
		out := fmt.Sprint(d.Count, d.Data[:cap(d.Data)][:len(d.Data)+3], l[:len(l)+3], x.Gen, b[:len(b)+3])
		for _, w := range d.Waits[:len(d.Waits)+3] {
			out += fmt.Sprint(w.Sector, w.Data[:min(len(w.Data)+3, cap(w.Data))])
		}
		for _, f := range x.Files[:len(x.Files)+3] {
			out += fmt.Sprint(f.Name, f.Size, f.Pieces[:min(len(f.Pieces)+3, cap(f.Pieces))])
		}
		return out
	}
	before := told()
	for name, call := range map[string]func() api.Errno{
		"Mount": func() api.Errno { _, e := Mount(d); return e },
		"Turn":  func() api.Errno { _, e := Turn(d, l); return e },
		"Get":   func() api.Errno { _, e := Get(d, "a"); return e },
		"Names": func() api.Errno { _, e := Names(d); return e },
		"Room":  func() api.Errno { _, e := Room(d); return e },
		"Write": func() api.Errno { _, e := Write(x); return e },
		"Read":  func() api.Errno { _, e := Read(b); return e },
	} {
		if e := call(); e != api.OK || told() != before {
			t.Errorf("%s: error %d, or what was handed in has changed", name, e)
		}
	}
}

// apart tells whether lists have memory of their own: each is filled up to its capacity, and then asked.
func apart[T comparable](t *testing.T, what string, marks func(int) T, lists ...[]T) {
	t.Helper()
	for i, l := range lists {
		for k := range l[:cap(l)] {
			l[:cap(l)][k] = marks(i)
		}
	}
	for i, l := range lists {
		for _, v := range l[:cap(l)] {
			if v != marks(i) {
				t.Fatalf("%s: list %d shares memory with another one", what, i)
			}
		}
	}
}

func byteMark(i int) byte { return byte(i + 1) }

func pieceMark(i int) api.Piece { return api.Piece{From: i + 1, Count: -1} }

// TestNewMemory: answers that are spoilt spoil nothing else.
func TestNewMemory(t *testing.T) {
	d := done(t, formatted(t, 100), put("a", strings.Repeat("a", 300)), put("b", "b"), put("c", strings.Repeat("c", 129)))
	want := fmt.Sprint(d)
	again, _ := Format(100)
	spoilt, _ := Format(100)
	apart(t, "Format", byteMark, spoilt.Data)
	if fresh, _ := Format(100); !disk.Same(fresh, again) {
		t.Error("Format: spoilt")
	}
	x, _ := Mount(d)
	y, _ := Mount(d)
	apart(t, "Mount", pieceMark, x.Files[0].Pieces, x.Files[1].Pieces, x.Files[2].Pieces, y.Files[0].Pieces, y.Files[1].Pieces, y.Files[2].Pieces)
	x.Files[0].Name = "spoilt"
	if y.Files[0].Name != "a" {
		t.Error("Mount: two answers share their files")
	}
	l := []api.Change{put("a", strings.Repeat("n", 300)), put("n", "n")}
	acts, _ := Turn(d, l)
	more, _ := Turn(d, l)
	var lists [][]byte
	for _, a := range append(acts, more...) {
		lists = append(lists, a.Put.Data)
	}
	apart(t, "Turn", byteMark, lists...)
	p, _ := Get(d, "a")
	q, _ := Get(d, "a")
	apart(t, "Get", byteMark, p, q)
	names, _ := Names(d)
	names[0] = "spoilt"
	b, _ := Write(dir(3, file("a", 1, 80, 1)))
	c, _ := Write(dir(3, file("a", 1, 80, 1)))
	apart(t, "Write", byteMark, b, c)
	in := modelBytes(dir(3, file("a", 1, 80, 1), file("b", 1, 82, 1)))
	r, _ := Read(in)
	clear(in)
	if !sameDir(r, dir(3, file("a", 1, 80, 1), file("b", 1, 82, 1))) {
		t.Error("Read: keeps what was handed in")
	}
	apart(t, "Read", pieceMark, r.Files[0].Pieces, r.Files[1].Pieces)
	if fmt.Sprint(d) != want {
		t.Error("the disk is spoilt")
	}
}

// TestTurnKeepsNothing: a disk that is spoilt behind Turn does not spoil the acts.
func TestTurnKeepsNothing(t *testing.T) {
	d := done(t, formatted(t, 100), put("a", "a"))
	l := []api.Change{put("b", strings.Repeat("b", 200))}
	want, _ := modelTurn(d, l)
	acts, _ := Turn(d, l)
	x, _ := Mount(d)
	b, _ := Get(d, "a")
	clear(d.Data)
	clear(l)
	isActs(t, "Turn", acts, want)
	isDir(t, "Mount", x, api.OK, dir(2, file("a", 1, 80, 1)))
	isBytes(t, "Get", b, api.OK, "a")
}

// TestFaults: what is wrong comes up as an error that wraps another one, the error's number at its end.
func TestFaults(t *testing.T) {
	_, err := write(dir(1, file("a", 0), file("b", 1)))
	var f fault
	if !errors.As(err, &f) || f.place != "file 1" {
		t.Fatalf("%v", err)
	}
	inner := f
	if !errors.As(f.Unwrap(), &inner) || inner.place == f.place || number(err) != api.ErrBad || !errors.Is(err, api.ErrBad) {
		t.Errorf("%v wraps %v", f, f.cause)
	}
	if err.Error() != "file 1: sectors for the size: "+api.ErrBad.Error() {
		t.Errorf("%v", err)
	}
	if number(nil) != api.OK {
		t.Errorf("no error: %d", number(nil))
	}
}

// TestFromBeginningToEnd: turns one behind the other in both slots, held against a map.
func TestFromBeginningToEnd(t *testing.T) {
	r := rand.New(rand.NewSource(47))
	for range 20 {
		d := formatted(t, 96+r.Intn(60))
		house := map[string]string{}
		gen := 1
		for range 40 {
			l := drawChanges(r, keys(house), 700)
			acts, e := Turn(d, l)
			if e != api.OK {
				continue
			}
			d, _ = disk.Do(d, acts)
			gen++
			house = behind(house, l)
			x, _ := Mount(d)
			if len(d.Waits) != 0 || x.Gen != gen || !isHouse(t, gen, d, house) {
				t.Fatalf("Gen %d, want %d", x.Gen, gen)
			}
		}
	}
}
