package page

import (
	"docket/api"
	"docket/bits"
)

// walk goes through a page's bytes. Once they are not what is asked for, it is lost, and what it answers from then on means nothing.
type walk struct {
	rest []byte
	lost bool
}

// cutEntries are the entries whose bytes b are, and whether it is as Make writes them. It does not tell whether they may be.
func cutEntries(b []byte) ([]api.Entry, bool) {
	w := walk{rest: b}
	var l []api.Entry
	ahead := ""
	for range w.number(api.MaxEntries) {
		x := w.entry(ahead)
		if w.lost {
			return nil, false
		}
		l = append(l, x)
		ahead = x.Key
	}
	return l, !w.lost && len(w.rest) == 0
}

func (w *walk) entry(ahead string) api.Entry {
	n := w.number(len(ahead))
	x := api.Entry{Key: ahead[:n] + string(w.text(api.MaxKey-n))}
	// Fewer than can be would be the same entry, written in a second way.
	if n != shared(ahead, x.Key) {
		w.lost = true
	}
	x.Seq = w.number(maxSeq)
	// The byte that tells Gone is the small bytes of its number.
	x.Gone = w.number(gone) == gone
	if !x.Gone {
		x.Value = string(w.text(api.MaxValue))
	}
	return x
}

// number reads one that is not above limit.
func (w *walk) number(limit int) int {
	n, k, e := bits.Read(w.rest)
	// Compared as it is: a number near 2^64 would be below 0 as an int.
	if e != api.OK || n > uint64(limit) {
		w.lost = true
		return 0
	}
	w.rest = w.rest[k:]
	return int(n)
}

// text reads one of no more than limit bytes. It is a piece of the page without the room behind it, so that nothing that is put behind the piece could be written over the page.
func (w *walk) text(limit int) []byte {
	n := w.number(limit)
	if n > len(w.rest) {
		w.lost = true
		return nil
	}
	piece := w.rest[:n:n]
	w.rest = w.rest[n:]
	return piece
}
