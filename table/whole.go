package table

import (
	"bytes"

	"docket/api"
	"docket/bits"
	"docket/sieve"
)

// How many bits of the sieve an entry has at least, and how many bytes stand behind it: three lengths and a sum.
const (
	perEntry = 10
	byteBits = 8
	lenSize  = 8
	sumSize  = 4
	endSize  = 3*lenSize + sumSize
)

// table is what a table's bytes are read into: its pages, of which it asks all that they tell, and the sieve of their keys.
type table struct {
	pages
	sieve []byte
}

func tableOf(p pages) table {
	return table{p, sieveOf(p.all())}
}

func sieveOf(l []api.Entry) []byte {
	keys := make([]string, len(l))
	for i, x := range l {
		keys[i] = x.Key
	}
	whole := (perEntry*len(l) + byteBits - 1) / byteBits
	// Entries that may be, and no more of them than may be, have a sieve.
	b, _ := sieve.Make(keys, whole*byteBits)
	return b
}

// mayHave tells whether key may be among the table's: no is sure.
func (t table) mayHave(key string) bool {
	is, e := sieve.Has(t.sieve, key)
	return is && e == api.OK
}

func (t table) bytes() []byte {
	var b []byte
	for _, s := range t.pages {
		b = append(b, s.bytes...)
	}
	many := len(b)
	index := t.index()
	b = append(b, index...)
	b = append(b, t.sieve...)
	for _, n := range []int{many, len(index), len(t.sieve)} {
		b = append(b, bits.Put(uint64(n))...)
	}
	return append(b, bits.Put(uint64(bits.Sum(b)))[:sumSize]...)
}

func (p pages) index() []byte {
	b := bits.Small(uint64(p.count()))
	for _, s := range p {
		b = append(b, bits.Text(s.first())...)
		b = append(b, bits.Text(s.last())...)
		b = append(b, bits.Small(uint64(len(s.bytes)))...)
	}
	return b
}

// read takes out of the bytes no more than where the pages are. All else the pages tell: b is a table, if it is that of its pages.
func read(b []byte) (table, api.Errno) {
	inner, index, ok := cut(b)
	if !ok {
		return table{}, api.ErrTable
	}
	sizes, ok := readSizes(index)
	if !ok {
		return table{}, api.ErrTable
	}
	p, ok := readPages(inner, sizes)
	if !ok {
		return table{}, api.ErrTable
	}
	t := tableOf(p)
	if !bytes.Equal(t.bytes(), b) {
		return table{}, api.ErrTable
	}
	return t, api.OK
}

// cut takes the bytes of the pages and those of the index out of a table, as the lengths at its end tell.
func cut(b []byte) (inner, index []byte, ok bool) {
	if len(b) < endSize || len(b) > maxTable {
		return nil, nil, false
	}
	b, end := b[:len(b)-endSize], b[len(b)-endSize:]
	many, _ := bits.Get(end[:lenSize])
	more, _ := bits.Get(end[lenSize : 2*lenSize])
	// Compared as they are: a length near 2^64 would be below 0 as an int.
	if many > uint64(len(b)) || more > uint64(len(b))-many {
		return nil, nil, false
	}
	return b[:many], b[many : many+more], true
}

// readSizes is how many bytes each page has, as an index tells. Its keys are passed over: the pages tell which they must be.
func readSizes(index []byte) ([]int, bool) {
	w := walk{rest: index}
	var l []int
	for range w.number() {
		w.pass()
		w.pass()
		l = append(l, w.number())
		if w.lost {
			return nil, false
		}
	}
	return l, !w.lost
}

// walk goes through an index's bytes. Once they are not what is asked for, it is lost, and what it answers from then on means nothing.
type walk struct {
	rest []byte
	lost bool
}

// number reads one that is not above what a table has of bytes: nothing in an index counts more.
func (w *walk) number() int {
	n, k, e := bits.Read(w.rest)
	if e != api.OK || n > maxTable {
		w.lost = true
		return 0
	}
	w.rest = w.rest[k:]
	return int(n)
}

// pass goes behind a text.
func (w *walk) pass() {
	n := w.number()
	if n > len(w.rest) {
		w.lost = true
		return
	}
	w.rest = w.rest[n:]
}
