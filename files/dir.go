package files

import (
	"slices"
	"strconv"

	"docket/api"
	"docket/bits"
	"docket/room"
)

// A sector of a directory has its Gen and its part's number, and behind them a part of the inside.
const (
	genSize    = 8
	partSize   = api.Sector - genSize - 1
	insideSize = api.Slot * partSize
	endGen     = 1 << 62 // above all Gens
	maxSize    = api.MaxSectors * api.Sector
)

func write(x api.Dir) ([]byte, error) {
	if len(x.Files) > api.MaxFiles {
		return nil, fault{"files", api.ErrFull}
	}
	if err := check(x); err != nil {
		return nil, err
	}
	in := inside(x.Files)
	if len(in) > insideSize {
		return nil, fault{"inside", api.ErrFull}
	}
	return parted(x.Gen, in), nil
}

func read(b []byte) (api.Dir, error) {
	if len(b) != api.Slot*api.Sector {
		return api.Dir{}, fault{"length", api.ErrBad}
	}
	gen, in, err := joined(b)
	if err != nil {
		return api.Dir{}, err
	}
	l, rest, err := cutList(in, cutFile)
	if err != nil {
		return api.Dir{}, fault{"inside", err}
	}
	if slices.ContainsFunc(rest, func(c byte) bool { return c != 0 }) {
		return api.Dir{}, fault{"behind the inside", api.ErrBad}
	}
	x := api.Dir{Gen: gen, Files: l}
	if err := check(x); err != nil {
		return api.Dir{}, err
	}
	return x, nil
}

// check tells what is wrong with a directory, nil if it may be.
func check(x api.Dir) error {
	if x.Gen < 1 || x.Gen >= endGen {
		return fault{"gen", api.ErrBad}
	}
	if len(x.Files) > api.MaxFiles {
		return fault{"files", api.ErrBad}
	}
	for i, f := range x.Files {
		if i > 0 && x.Files[i-1].Name >= f.Name {
			return fault{"order of names", api.ErrBad}
		}
	}
	// Ahead of the files one by one: pieces that may be have counts that can be summed up.
	if room.Check(api.MaxSectors, pieces(x.Files)) != api.OK {
		return fault{"pieces", api.ErrBad}
	}
	for i, f := range x.Files {
		if err := checkFile(f); err != nil {
			return fault{"file " + strconv.Itoa(i), err}
		}
	}
	return nil
}

// checkFile tells what is wrong with a file whose pieces may be among all sectors.
func checkFile(f api.File) error {
	if !isName(f.Name) {
		return fault{"name", api.ErrBad}
	}
	if f.Size < 0 || f.Size > maxSize {
		return fault{"size", api.ErrBad}
	}
	many := 0
	for _, p := range f.Pieces {
		if p.From < firstFile {
			return fault{"a piece below the files", api.ErrBad}
		}
		many += p.Count
	}
	if many != needs(f.Size) {
		return fault{"sectors for the size", api.ErrBad}
	}
	return nil
}

func isName(s string) bool {
	if len(s) < 1 || len(s) > api.MaxName {
		return false
	}
	for i := range len(s) {
		if !isNameByte(s[i]) {
			return false
		}
	}
	return true
}

func isNameByte(c byte) bool {
	return 'a' <= c && c <= 'z' || '0' <= c && c <= '9' || c == '-' || c == '_' || c == '.'
}

// needs is how many sectors so many bytes need.
func needs(size int) int { return (size + api.Sector - 1) / api.Sector }

// pieces are those of all files, one behind the other.
func pieces(l []api.File) []api.Piece {
	var out []api.Piece
	for _, f := range l {
		out = append(out, f.Pieces...)
	}
	return out
}

// inside is the files of a directory as bytes, without the noughts behind.
func inside(l []api.File) []byte {
	b := small(len(l))
	for _, f := range l {
		b = append(b, bits.Text(f.Name)...)
		b = append(b, small(f.Size)...)
		b = append(b, small(len(f.Pieces))...)
		for _, p := range f.Pieces {
			b = append(b, small(p.From)...)
			b = append(b, small(p.Count)...)
		}
	}
	return b
}

func small(n int) []byte { return bits.Small(uint64(n)) }

// parted is an inside as eight sectors: each tells its Gen and its place, so that no other one passes for it.
func parted(gen int, in []byte) []byte {
	full := make([]byte, insideSize)
	copy(full, in)
	var b []byte
	for i := range api.Slot {
		b = append(b, bits.Put(uint64(gen))...)
		b = append(b, byte(i))
		b = append(b, full[i*partSize:(i+1)*partSize]...)
	}
	return b
}

// joined is the Gen that eight sectors have, and their parts, one behind the other.
func joined(b []byte) (int, []byte, error) {
	var in []byte
	gen := begins(b)
	for i := range api.Slot {
		s := b[i*api.Sector : (i+1)*api.Sector]
		if begins(s) != gen {
			return 0, nil, fault{"gen of sector " + strconv.Itoa(i), api.ErrBad}
		}
		if int(s[genSize]) != i {
			return 0, nil, fault{"number of sector " + strconv.Itoa(i), api.ErrBad}
		}
		in = append(in, s[genSize+1:]...)
	}
	// From 2^63 on it turns below 0 here: check refuses it there as it does above.
	return int(gen), in, nil
}

// begins is the number with which a sector begins. Eight bytes always are one: there is no error to tell.
func begins(s []byte) uint64 {
	n, _ := bits.Get(s[:genSize])
	return n
}

// cutList reads a number, and as many things as it says, each by cut; and tells what is behind them.
func cutList[T any](b []byte, cut func([]byte) (T, []byte, error)) ([]T, []byte, error) {
	many, b, err := cutNumber(b)
	if err != nil {
		return nil, nil, err
	}
	var l []T
	for i := range many {
		var x T
		if x, b, err = cut(b); err != nil {
			return nil, nil, fault{strconv.Itoa(i), err}
		}
		l = append(l, x)
	}
	return l, b, nil
}

func cutFile(b []byte) (api.File, []byte, error) {
	name, b, e := bits.Cut(b)
	if e != api.OK {
		return api.File{}, nil, fault{"name", e}
	}
	size, b, err := cutNumber(b)
	if err != nil {
		return api.File{}, nil, fault{"size", err}
	}
	l, b, err := cutList(b, cutPiece)
	if err != nil {
		return api.File{}, nil, fault{"pieces", err}
	}
	return api.File{Name: name, Size: size, Pieces: l}, b, nil
}

func cutPiece(b []byte) (api.Piece, []byte, error) {
	from, b, err := cutNumber(b)
	if err != nil {
		return api.Piece{}, nil, fault{"from", err}
	}
	count, b, err := cutNumber(b)
	if err != nil {
		return api.Piece{}, nil, fault{"count", err}
	}
	return api.Piece{From: from, Count: count}, b, nil
}

// cutNumber reads a number. No number of a directory that may be is above maxSize, so that a greater one need not fit an int.
func cutNumber(b []byte) (int, []byte, error) {
	n, k, e := bits.Read(b)
	if e != api.OK {
		return 0, nil, fault{"number", e}
	}
	if n > maxSize {
		return 0, nil, fault{"number", api.ErrBad}
	}
	return int(n), b[k:], nil
}
