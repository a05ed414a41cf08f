package files

import (
	"bytes"
	"slices"
	"strings"

	"docket/api"
	"docket/room"
)

// maxChanges is as many as it takes to take all files away and to put others.
const maxChanges = 2 * api.MaxFiles

func turn(d api.Disk, l []api.Change) ([]api.Act, error) {
	old, at, err := mount(d)
	if err != nil {
		return nil, err
	}
	if err := checkChanges(old.Files, l); err != nil {
		return nil, err
	}
	stay, puts := staying(old.Files, l), putting(l)
	if len(stay)+len(puts) > api.MaxFiles {
		return nil, fault{"new files", api.ErrFull}
	}
	placed, err := place(d.Count, pieces(old.Files), puts)
	if err != nil {
		return nil, err
	}
	other := api.Slot - at
	b, err := writeNext(nextGen(d, old.Gen, other), append(stay, placed...))
	if err != nil {
		return nil, err
	}
	return append(fileActs(placed, puts), slotActs(other, b)...), nil
}

func checkChanges(old []api.File, l []api.Change) error {
	if len(l) > maxChanges {
		return fault{"changes", api.ErrMany}
	}
	for i, c := range l {
		if !isName(c.Key) {
			return fault{"name of a change", api.ErrName}
		}
		if named(l[:i], c.Key) {
			return fault{c.Key + " again", api.ErrBad}
		}
		if c.Gone && find(old, c.Key) < 0 {
			return fault{c.Key, api.ErrNone}
		}
	}
	return nil
}

// named tells whether changes name a file.
func named(l []api.Change, name string) bool {
	return slices.ContainsFunc(l, func(c api.Change) bool { return c.Key == name })
}

// staying are the files that no change names.
func staying(old []api.File, l []api.Change) []api.File {
	var out []api.File
	for _, f := range old {
		if !named(l, f.Name) {
			out = append(out, f)
		}
	}
	return out
}

// putting are the changes that put a file.
func putting(l []api.Change) []api.Change {
	var out []api.Change
	for _, c := range l {
		if !c.Gone {
			out = append(out, c)
		}
	}
	return out
}

// place finds sectors for the files that are put. Those of the old files stay in use, also where such a file goes: the old directory holds until the new one does. The list used is the caller's own.
func place(count int, used []api.Piece, puts []api.Change) ([]api.File, error) {
	var out []api.File
	for _, c := range puts {
		many := needs(len(c.Value))
		// More than any disk has are no number that room takes.
		if many > api.MaxSectors {
			return nil, fault{c.Key, api.ErrSpace}
		}
		p, e := room.Take(firstFile, count, used, many)
		if e != api.OK {
			return nil, fault{c.Key, e}
		}
		used = append(used, p...)
		out = append(out, api.File{Name: c.Key, Size: len(c.Value), Pieces: p})
	}
	return out, nil
}

// nextGen is above the Gen that counts and above all that the sectors of the other slot begin with: so one of these that stays by a loss of power never fits the new ones.
func nextGen(d api.Disk, gen, other int) int {
	for i := range api.Slot {
		if n := begins(now(d, other+i)); n < endGen {
			gen = max(gen, int(n))
		}
	}
	return gen + 1
}

// writeNext is the bytes of the directory that is to come. The list of files is the caller's own.
func writeNext(gen int, l []api.File) ([]byte, error) {
	if gen == endGen {
		return nil, fault{"new gen", api.ErrFull}
	}
	slices.SortFunc(l, func(a, b api.File) int { return strings.Compare(a.Name, b.Name) })
	return write(api.Dir{Gen: gen, Files: l})
}

// fileActs write the files that are put and make them sure, ahead of the directory that tells of them.
func fileActs(placed []api.File, puts []api.Change) []api.Act {
	var out []api.Act
	for i, f := range placed {
		for k, n := range sectors(f) {
			b := make([]byte, api.Sector)
			copy(b, puts[i].Value[k*api.Sector:])
			out = append(out, api.Act{Put: api.Put{Sector: n, Data: b}})
		}
	}
	if len(out) > 0 {
		out = append(out, api.Act{Flush: true})
	}
	return out
}

// slotActs write the bytes of a directory into the slot that begins at a sector, and make them sure.
func slotActs(at int, b []byte) []api.Act {
	var out []api.Act
	for i := range api.Slot {
		s := bytes.Clone(b[i*api.Sector : (i+1)*api.Sector])
		out = append(out, api.Act{Put: api.Put{Sector: at + i, Data: s}})
	}
	return append(out, api.Act{Flush: true})
}
