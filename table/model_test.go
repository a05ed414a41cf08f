package table

import (
	"encoding/binary"
	"fmt"
	"hash/crc32"
	"math/rand"
	"slices"
	"strings"

	"docket/api"
)

// What the chapter says of tables, told once more by other means: numbers and sums come out of the library, a sieve is a set of numbers, and bytes are a table if they are what the entries that they seem to tell are written as. The model calls none of the program's functions.

// most is how many bytes a table has at most, last the greatest number of an entry.
const (
	most = 4096 * 128
	last = 1<<31 - 1
)

func modelText(a, b string) int {
	for i := 0; i < len(a) && i < len(b); i++ {
		if a[i] != b[i] {
			return int(a[i]) - int(b[i])
		}
	}
	return len(a) - len(b)
}

func modelLess(a, b api.Entry) bool {
	if c := modelText(a.Key, b.Key); c != 0 {
		return c < 0
	}
	return b.Seq < a.Seq
}

func modelEntries(l []api.Entry) api.Errno {
	if len(l) > 4096 {
		return api.ErrMany
	}
	for i, x := range l {
		if len(x.Key) == 0 || len(x.Key) > 256 {
			return api.ErrKey
		}
		if len(x.Value) > 4096 {
			return api.ErrText
		}
		if int64(x.Seq) < 0 || int64(x.Seq) >= 1<<31 {
			return api.ErrArg
		}
		if x.Gone && len(x.Value) > 0 {
			return api.ErrBad
		}
		if i > 0 && !modelLess(l[i-1], x) {
			return api.ErrOrder
		}
	}
	return api.OK
}

// modelPage is the page of entries, whether they may be or not.
func modelPage(l []api.Entry) []byte {
	b := number(len(l))
	ahead := ""
	for _, x := range l {
		n := len(x.Key)
		for !strings.HasPrefix(ahead, x.Key[:n]) {
			n--
		}
		b = slices.Concat(b, number(n), text(x.Key[n:]), number(x.Seq))
		if x.Gone {
			b = append(b, 1)
		} else {
			b = slices.Concat(b, []byte{0}, text(x.Value))
		}
		ahead = x.Key
	}
	return sealed(b)
}

func number(n int) []byte { return binary.AppendUvarint(nil, uint64(n)) }

func text(s string) []byte { return append(number(len(s)), s...) }

// sealed is b with its sum behind.
func sealed(b []byte) []byte {
	return binary.LittleEndian.AppendUint32(slices.Clone(b), crc32.ChecksumIEEE(b))
}

// modelParts are entries in lists, a page each.
func modelParts(l []api.Entry) [][]api.Entry {
	var parts [][]api.Entry
	for from, i := 0, 1; i <= len(l); i++ {
		if i == len(l) || len(modelPage(l[from:i])) >= 512 {
			parts = append(parts, l[from:i])
			from = i
		}
	}
	return parts
}

// spot is what an index tells of a page.
type spot struct {
	first, last string
	size        int
}

func indexOf(many int, spots ...spot) []byte {
	b := number(many)
	for _, s := range spots {
		b = slices.Concat(b, text(s.first), text(s.last), number(s.size))
	}
	return b
}

func modelSieve(l []api.Entry, many int) []byte {
	b := make([]byte, many/8)
	for _, x := range l {
		h, g := uint64(crc32.ChecksumIEEE([]byte(x.Key))), uint64(crc32.ChecksumIEEE([]byte(x.Key+"\x01")))
		if g%2 == 0 {
			g++
		}
		for i := range uint64(4) {
			n := (h + i*g) % (1 << 32) % uint64(many)
			b[n/8] |= 1 << (n % 8)
		}
	}
	return b
}

// sieveBits is how many bits the sieve of n entries has.
func sieveBits(n int) int {
	many := 10 * n
	for many%8 != 0 {
		many++
	}
	return many
}

// draft is a table that is not put together yet, so that something of it can be another one.
type draft struct {
	pages [][]byte
	spots []spot
	sieve []byte
}

// draftOf is the draft of entries that are parted so.
func draftOf(parts ...[]api.Entry) draft {
	var d draft
	var all []api.Entry
	for _, l := range parts {
		p := modelPage(l)
		s := spot{size: len(p)}
		if len(l) > 0 {
			s.first, s.last = l[0].Key, l[len(l)-1].Key
		}
		d.pages = append(d.pages, p)
		d.spots = append(d.spots, s)
		all = append(all, l...)
	}
	if len(all) > 0 {
		d.sieve = modelSieve(all, sieveBits(len(all)))
	}
	return d
}

func (d draft) index() []byte { return indexOf(len(d.spots), d.spots...) }

func (d draft) bytes() []byte {
	return whole(slices.Concat(d.pages...), d.index(), d.sieve)
}

// whole is what parts come to, with lengths and a sum that fit them.
func whole(pages, index, sieve []byte) []byte {
	return ended(slices.Concat(pages, index, sieve), len(pages), len(index), len(sieve))
}

// ended is b with three lengths, whatever they are, and a sum that fits.
func ended(b []byte, lengths ...int) []byte {
	b = slices.Clone(b)
	for _, n := range lengths {
		b = binary.LittleEndian.AppendUint64(b, uint64(n))
	}
	return sealed(b)
}

func modelMake(l []api.Entry) ([]byte, api.Errno) {
	if e := modelEntries(l); e != api.OK {
		return nil, e
	}
	if len(l) == 0 {
		return nil, api.ErrTable
	}
	b := draftOf(modelParts(l)...).bytes()
	if len(b) > most {
		return nil, api.ErrCap
	}
	return b, api.OK
}

// modelAll takes the entries that the pages seem to tell, one page behind the other, without a look at the index, and then asks whether their table is b.
func modelAll(b []byte) ([]api.Entry, api.Errno) {
	if len(b) < 28 {
		return nil, api.ErrTable
	}
	many := binary.LittleEndian.Uint64(b[len(b)-28:])
	if many > uint64(len(b)) {
		return nil, api.ErrTable
	}
	var l []api.Entry
	for rest, ok := b[:many], true; len(rest) > 0; {
		var more []api.Entry
		if more, rest, ok = guessPage(rest); !ok {
			return nil, api.ErrTable
		}
		l = append(l, more...)
	}
	if again, e := modelMake(l); e != api.OK || string(again) != string(b) {
		return nil, api.ErrTable
	}
	return l, api.OK
}

func guessPage(b []byte) ([]api.Entry, []byte, bool) {
	many, b, ok := guessNumber(b)
	if !ok || many > 1<<16 {
		return nil, nil, false
	}
	var l []api.Entry
	ahead := ""
	for range many {
		var n, seq uint64
		var more, value string
		if n, b, ok = guessNumber(b); !ok || n > uint64(len(ahead)) {
			return nil, nil, false
		}
		if more, b, ok = guessText(b); !ok || len(more) > 1<<9 {
			return nil, nil, false
		}
		if seq, b, ok = guessNumber(b); !ok || len(b) == 0 {
			return nil, nil, false
		}
		is := b[0] == 1
		b = b[1:]
		if !is {
			if value, b, ok = guessText(b); !ok {
				return nil, nil, false
			}
		}
		if ahead = ahead[:n] + more; len(ahead) > 1<<9 {
			return nil, nil, false
		}
		l = append(l, api.Entry{Key: ahead, Value: value, Seq: int(seq), Gone: is})
	}
	if len(b) < 4 {
		return nil, nil, false
	}
	return l, b[4:], true
}

func guessNumber(b []byte) (uint64, []byte, bool) {
	n, k := binary.Uvarint(b)
	if k <= 0 {
		return 0, nil, false
	}
	return n, b[k:], true
}

func guessText(b []byte) (string, []byte, bool) {
	n, b, ok := guessNumber(b)
	if !ok || n > uint64(len(b)) {
		return "", nil, false
	}
	return string(b[:n]), b[n:], true
}

// modelFind is the entry of a key that counts at a number: the one with the greatest Seq of those that are not above it.
func modelFind(l []api.Entry, key string, seq int) (api.Entry, bool) {
	var best api.Entry
	is := false
	for _, x := range l {
		if modelText(x.Key, key) == 0 && x.Seq <= seq && (!is || x.Seq > best.Seq) {
			best, is = x, true
		}
	}
	return best, is
}

func modelRange(l []api.Entry, from, to string) []api.Entry {
	var some []api.Entry
	for _, x := range l {
		if modelText(x.Key, from) >= 0 && (len(to) == 0 || modelText(x.Key, to) < 0) {
			some = append(some, x)
		}
	}
	return some
}

// chars is a text of n bytes c.
func chars(n int, c byte) string { return strings.Repeat(string([]byte{c}), n) }

func list(l ...api.Entry) []api.Entry { return l }

// put is an entry with a value, taken one that is Gone.
func put(key, value string, seq int) api.Entry { return api.Entry{Key: key, Value: value, Seq: seq} }

func taken(key string, seq int) api.Entry { return api.Entry{Key: key, Seq: seq, Gone: true} }

// numbered are n entries that rise, each of a key of its own and with a value of so many bytes.
func numbered(n, size int) []api.Entry {
	l := make([]api.Entry, n)
	for i := range l {
		l[i] = put(fmt.Sprintf("key%05d", i), chars(size, byte('a'+i%26)), i)
	}
	return l
}

// falling are n entries of one key.
func falling(key string, n int) []api.Entry {
	l := make([]api.Entry, n)
	for i := range l {
		l[i] = taken(key, n-1-i)
	}
	return l
}

// sized are entries that rise and whose table has so many bytes: some of the longest values, and a last one that is cut to fit.
func sized(size int) []api.Entry {
	var l []api.Entry
	for i := 0; ; i++ {
		l = append(l, put(fmt.Sprintf("big%03d", i), chars(api.MaxValue, byte(i)), i))
		if over := len(draftOf(modelParts(l)...).bytes()) - size; over >= 0 {
			l[i].Value = l[i].Value[over:]
			return l
		}
	}
}

// edges are the bytes of drawn keys, few of them, so that keys often begin alike.
const edges = "\x00\x01a\x7f\x80\xff"

func drawText(r *rand.Rand, most int) string {
	b := make([]byte, r.Intn(most+1))
	for i := range b {
		if b[i] = edges[r.Intn(len(edges))]; r.Intn(8) == 0 {
			b[i] = byte(r.Intn(256))
		}
	}
	return string(b)
}

func drawSeq(r *rand.Rand) int {
	near := []int{0, 1, 2, 3, 127, 128, 16384, 1 << 28, last}
	if r.Intn(3) == 0 {
		return r.Intn(1 << (1 + r.Intn(31)))
	}
	return near[r.Intn(len(near))]
}

func drawKey(r *rand.Rand) string {
	key := drawText(r, []int{1, 2, 4, 20, api.MaxKey}[r.Intn(5)])
	if key == "" {
		return "k"
	}
	return key
}

func drawEntry(r *rand.Rand) api.Entry {
	x := api.Entry{Key: drawKey(r), Seq: drawSeq(r), Gone: r.Intn(3) == 0}
	if !x.Gone {
		x.Value = drawText(r, []int{0, 1, 3, 60, 130, 400, 1000}[r.Intn(7)])
	}
	return x
}

// drawList is of 1 to most entries that rise; many have the key of another one, or begin with it.
func drawList(r *rand.Rand, most int) []api.Entry {
	var l []api.Entry
	for range 1 + r.Intn(most) {
		x := drawEntry(r)
		if n := len(l); n > 0 && r.Intn(2) == 0 {
			x.Key = l[r.Intn(n)].Key
			if more := drawText(r, 2); r.Intn(3) == 0 && len(x.Key)+len(more) <= api.MaxKey {
				x.Key += more
			}
		}
		l = append(l, x)
	}
	slices.SortFunc(l, func(a, b api.Entry) int {
		if modelLess(a, b) {
			return -1
		}
		if modelLess(b, a) {
			return 1
		}
		return 0
	})
	return slices.CompactFunc(l, func(a, b api.Entry) bool { return a.Key == b.Key && a.Seq == b.Seq })
}
