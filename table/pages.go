package table

import (
	"docket/api"
	"docket/page"
)

// sheet is one page: its entries, at least one, and the bytes that they are.
type sheet struct {
	entries []api.Entry
	bytes   []byte
}

// pages are those of a table, in order.
type pages []sheet

// part puts entries that rise into pages, unless these alone have more bytes than a table may.
func part(l []api.Entry) (pages, bool) {
	var p pages
	for size := 0; len(l) > 0; {
		s := firstSheet(l)
		// Asked of each one: entries that may be can have far more bytes than a table, and need not be put together then.
		if size += len(s.bytes); size > maxTable {
			return nil, false
		}
		p = append(p, s)
		l = l[len(s.entries):]
	}
	return p, true
}

// firstSheet ends behind the entry with which it is long enough, or behind the last one. Entries that may be never make it too long for a page.
func firstSheet(l []api.Entry) sheet {
	for n := 1; ; n++ {
		b, _ := page.Make(l[:n])
		if len(b) >= api.PageSize || n == len(l) {
			return sheet{l[:n], b}
		}
	}
}

// readPages takes pages of such sizes out of b, and tells whether they are pages that were parted where they must be.
func readPages(b []byte, sizes []int) (pages, bool) {
	var p pages
	for i, n := range sizes {
		if n > len(b) {
			return nil, false
		}
		l, e := page.Read(b[:n])
		if e != api.OK || !endsWell(l, n, i == len(sizes)-1) {
			return nil, false
		}
		p = append(p, sheet{l, b[:n]})
		b = b[n:]
	}
	// Only all of them together tell whether the entries of neighbours rise, and whether they are too many, or none.
	return p, len(p) > 0 && page.Check(p.all()) == api.OK
}

// endsWell tells whether a page of so many bytes is closed behind its last entry, and not ahead of it.
func endsWell(l []api.Entry, size int, last bool) bool {
	if len(l) == 0 || size < api.PageSize && !last {
		return false
	}
	ahead, _ := page.Make(l[:len(l)-1])
	return len(ahead) < api.PageSize
}

func (s sheet) first() string {
	return s.entries[0].Key
}

func (s sheet) last() string {
	return s.entries[len(s.entries)-1].Key
}

func (p pages) count() int {
	return len(p)
}

func (p pages) first() string {
	return p[0].first()
}

func (p pages) last() string {
	return p[len(p)-1].last()
}

func (p pages) all() []api.Entry {
	return p.between("", "")
}

// between are the entries from a key up to ahead of another one; none stands ahead of a key without a byte, so that one means no end.
func (p pages) between(from, to string) []api.Entry {
	var l []api.Entry
	for _, s := range p {
		if s.last() < from || to != "" && s.first() >= to {
			continue
		}
		for _, x := range s.entries {
			if x.Key >= from && (to == "" || x.Key < to) {
				l = append(l, x)
			}
		}
	}
	return l
}

// newest is the first entry that does not stand ahead of a key at a number, if it is one of that key.
func (p pages) newest(key string, seq int) (api.Entry, bool) {
	at := api.Entry{Key: key, Seq: seq}
	for _, s := range p {
		// A key that ends a page may go on in the next one.
		if s.last() < key {
			continue
		}
		for _, x := range s.entries {
			if !page.Less(x, at) {
				return ofKey(x, key)
			}
		}
	}
	return api.Entry{}, false
}

func ofKey(x api.Entry, key string) (api.Entry, bool) {
	if x.Key != key {
		return api.Entry{}, false
	}
	return x, true
}
