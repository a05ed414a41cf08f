package merge

import (
	"fmt"
	"math/rand"
	"slices"
	"strings"

	"docket/api"
)

// What the chapter says of rows, told once more by other means: all entries are laid together and sorted, and what is the newest of a key is looked for among all of that key, in any order. The model calls none of the program's functions.

const (
	end  = 1<<31 - 1 // the greatest number of an entry
	rows = 64
	most = 4 * 4096 // entries of all rows
)

func modelText(a, b string) int {
	for i := 0; i < len(a) && i < len(b); i++ {
		if a[i] != b[i] {
			return int(a[i]) - int(b[i])
		}
	}
	return len(a) - len(b)
}

// modelOrder is below 0 where a stands ahead of b, 0 where both have the same Key and Seq.
func modelOrder(a, b api.Entry) int {
	if c := modelText(a.Key, b.Key); c != 0 {
		return c
	}
	switch {
	case a.Seq > b.Seq:
		return -1
	case a.Seq < b.Seq:
		return 1
	}
	return 0
}

func modelOne(x api.Entry) api.Errno {
	if len(x.Key) == 0 || len(x.Key) > 256 {
		return api.ErrKey
	}
	if len(x.Value) > 4096 {
		return api.ErrText
	}
	if int64(x.Seq) < 0 || int64(x.Seq) >= 1<<31 {
		return api.ErrArg
	}
	if x.Gone && len(x.Value) > 0 {
		return api.ErrBad
	}
	return api.OK
}

// modelCheck tells of entries that are at most so many.
func modelCheck(l []api.Entry, atMost int) api.Errno {
	if len(l) > atMost {
		return api.ErrMany
	}
	for i, x := range l {
		if e := modelOne(x); e != api.OK {
			return e
		}
		if i > 0 && modelOrder(l[i-1], x) >= 0 {
			return api.ErrOrder
		}
	}
	return api.OK
}

func modelAll(l [][]api.Entry) ([]api.Entry, api.Errno) {
	if len(l) > rows {
		return nil, api.ErrMany
	}
	for _, row := range l {
		if e := modelCheck(row, 4096); e != api.OK {
			return nil, e
		}
	}
	all := slices.Concat(l...)
	if len(all) > most {
		return nil, api.ErrMany
	}
	type name struct {
		key string
		seq int
	}
	seen := map[name]bool{}
	for _, x := range all {
		if seen[name{x.Key, x.Seq}] {
			return nil, api.ErrOrder
		}
		seen[name{x.Key, x.Seq}] = true
	}
	return sorted(all), api.OK
}

// modelNewest is, of each key that has one, its newest at a number.
func modelNewest(l []api.Entry, seq int) map[string]api.Entry {
	newest := map[string]api.Entry{}
	for _, x := range l {
		if best, is := newest[x.Key]; x.Seq <= seq && (!is || x.Seq > best.Seq) {
			newest[x.Key] = x
		}
	}
	return newest
}

// modelCounting are those of any entries that count at a number, rising.
func modelCounting(l []api.Entry, seq int) []api.Entry {
	var out []api.Entry
	for _, x := range modelNewest(l, seq) {
		if !x.Gone {
			out = append(out, x)
		}
	}
	return sorted(out)
}

func modelLive(l [][]api.Entry, seq int) ([]api.Entry, api.Errno) {
	all, e := modelAll(l)
	if e != api.OK {
		return nil, e
	}
	if int64(seq) < 0 || int64(seq) >= 1<<31 {
		return nil, api.ErrArg
	}
	return modelCounting(all, seq), api.OK
}

func modelThin(l []api.Entry, seq int, last bool) ([]api.Entry, api.Errno) {
	if e := modelCheck(l, most); e != api.OK {
		return nil, e
	}
	if int64(seq) < 0 || int64(seq) >= 1<<31 {
		return nil, api.ErrArg
	}
	var out []api.Entry
	for _, x := range l {
		if x.Seq > seq {
			out = append(out, x)
		}
	}
	for _, x := range modelNewest(l, seq) {
		if !last || !x.Gone {
			out = append(out, x)
		}
	}
	return sorted(out), api.OK
}

// modelFrom is all that a cursor tells.
func modelFrom(l [][]api.Entry, seq int, from string) ([]api.Entry, api.Errno) {
	live, e := modelLive(l, seq)
	if e != api.OK {
		return nil, e
	}
	if len(from) > 256 {
		return nil, api.ErrText
	}
	return slices.DeleteFunc(live, func(x api.Entry) bool { return modelText(x.Key, from) < 0 }), api.OK
}

// sorted is a new list of the same entries, rising if they can.
func sorted(l []api.Entry) []api.Entry {
	l = slices.Clone(l)
	slices.SortStableFunc(l, modelOrder)
	return l
}

// chars is a text of n bytes c.
func chars(n int, c byte) string { return strings.Repeat(string([]byte{c}), n) }

func list(l ...api.Entry) []api.Entry { return l }

func lists(l ...[]api.Entry) [][]api.Entry { return l }

// put is an entry with a value, taken one that is Gone.
func put(key, value string, seq int) api.Entry { return api.Entry{Key: key, Value: value, Seq: seq} }

func taken(key string, seq int) api.Entry { return api.Entry{Key: key, Seq: seq, Gone: true} }

// numbered are n entries that rise, four of each key: three with a value, the oldest Gone.
func numbered(n int) []api.Entry {
	l := make([]api.Entry, n)
	for i := range l {
		key, seq := fmt.Sprintf("key%05d", i/4), 40-i%4*10
		if l[i] = put(key, fmt.Sprint("value ", i), seq); i%4 == 3 {
			l[i] = taken(key, seq)
		}
	}
	return l
}

// falling are n entries of one key.
func falling(key string, n int) []api.Entry {
	l := make([]api.Entry, n)
	for i := range l {
		l[i] = put(key, "v", 2*(n-1-i))
	}
	return l
}

// dealt are rising entries in so many rows: the first one into the first row, the next one into the next row, and so on.
func dealt(l []api.Entry, many int) [][]api.Entry {
	out := make([][]api.Entry, many)
	for i, x := range l {
		out[i%many] = append(out[i%many], x)
	}
	return out
}

// cut are rising entries in rows of so many, one behind the other.
func cut(l []api.Entry, many int) [][]api.Entry {
	return slices.Collect(slices.Chunk(l, many))
}

// edges are the bytes of drawn keys, few of them, so that keys often begin alike.
const edges = "\x00\x01a\x7f\x80\xff"

func drawText(r *rand.Rand, most int) string {
	b := make([]byte, r.Intn(most+1))
	for i := range b {
		if b[i] = edges[r.Intn(len(edges))]; r.Intn(8) == 0 {
			b[i] = byte(r.Intn(256))
		}
	}
	return string(b)
}

func drawSeq(r *rand.Rand) int {
	near := []int{0, 1, 2, 3, 4, 5, 6, 7, 127, 128, end - 1, end}
	if r.Intn(4) == 0 {
		return r.Intn(1 << (1 + r.Intn(31)))
	}
	return near[r.Intn(len(near))]
}

func drawKey(r *rand.Rand) string {
	key := drawText(r, []int{1, 2, 2, 4, 20, api.MaxKey}[r.Intn(6)])
	if key == "" {
		return "k"
	}
	return key
}

func drawEntry(r *rand.Rand) api.Entry {
	x := api.Entry{Key: drawKey(r), Seq: drawSeq(r), Gone: r.Intn(3) == 0}
	if !x.Gone {
		x.Value = drawText(r, []int{0, 1, 3, 60}[r.Intn(4)])
	}
	return x
}

// drawEntries are n entries in any order; many have the key of another one, or begin with it.
func drawEntries(r *rand.Rand, n int) []api.Entry {
	var l []api.Entry
	for range n {
		x := drawEntry(r)
		if len(l) > 0 && r.Intn(3) > 0 {
			x.Key = l[r.Intn(len(l))].Key
			if more := drawText(r, 2); r.Intn(4) == 0 && len(x.Key)+len(more) <= api.MaxKey {
				x.Key += more
			}
		}
		l = append(l, x)
	}
	return l
}

// drawList is of at most n entries that rise.
func drawList(r *rand.Rand, n int) []api.Entry {
	l := sorted(drawEntries(r, r.Intn(n+1)))
	return slices.CompactFunc(l, func(a, b api.Entry) bool { return modelOrder(a, b) == 0 })
}

// drawRows are rising entries in some rows, of which some may have none.
func drawRows(r *rand.Rand, l []api.Entry, many int) [][]api.Entry {
	out := make([][]api.Entry, many)
	wide := 1 + r.Intn(many)
	for _, x := range l {
		i := r.Intn(wide)
		out[i] = append(out[i], x)
	}
	return shuffled(r, out)
}

// turned is an entry that often may not be.
func turned(r *rand.Rand, x api.Entry) api.Entry {
	switch r.Intn(7) {
	case 0:
		x.Key = ""
	case 1:
		x.Key = chars(api.MaxKey+1+r.Intn(3), 'k')
	case 2:
		x.Value = chars(api.MaxValue+1+r.Intn(3), 'v')
	case 3:
		x.Seq = -1 - x.Seq
	case 4:
		x.Seq += 1 << 31
	case 5:
		x.Gone, x.Value = true, "v"
	}
	return x
}

func shuffled[T any](r *rand.Rand, l []T) []T {
	l = slices.Clone(l)
	r.Shuffle(len(l), func(i, k int) { l[i], l[k] = l[k], l[i] })
	return l
}
