package fresh

import (
	"fmt"
	"math/rand"
	"slices"
	"strings"

	"docket/api"
)

// What the chapter says of rows, told once more by other means: entries are put behind the others and sorted, and what is found is looked for among all. The model calls none of the program's functions.

const last = 1<<31 - 1 // the greatest number of an entry

func modelText(a, b string) int {
	for i := 0; i < len(a) && i < len(b); i++ {
		if a[i] != b[i] {
			return int(a[i]) - int(b[i])
		}
	}
	return len(a) - len(b)
}

// modelOrder is below 0 where a stands ahead of b, 0 where both have the same Key and Seq.
func modelOrder(a, b api.Entry) int {
	if c := modelText(a.Key, b.Key); c != 0 {
		return c
	}
	switch {
	case a.Seq > b.Seq:
		return -1
	case a.Seq < b.Seq:
		return 1
	}
	return 0
}

func modelOne(x api.Entry) api.Errno {
	if len(x.Key) == 0 || len(x.Key) > 256 {
		return api.ErrKey
	}
	if len(x.Value) > 4096 {
		return api.ErrText
	}
	if int64(x.Seq) < 0 || int64(x.Seq) >= 1<<31 {
		return api.ErrArg
	}
	if x.Gone && len(x.Value) > 0 {
		return api.ErrBad
	}
	return api.OK
}

func modelCheck(l []api.Entry) api.Errno {
	if len(l) > 4096 {
		return api.ErrMany
	}
	for i, x := range l {
		if e := modelOne(x); e != api.OK {
			return e
		}
		if i > 0 && modelOrder(l[i-1], x) >= 0 {
			return api.ErrOrder
		}
	}
	return api.OK
}

func modelPut(l []api.Entry, x api.Entry) ([]api.Entry, api.Errno) {
	if e := modelCheck(l); e != api.OK {
		return nil, e
	}
	if e := modelOne(x); e != api.OK {
		return nil, e
	}
	for _, y := range l {
		if modelOrder(x, y) == 0 {
			return nil, api.ErrOrder
		}
	}
	if len(l) >= 4096 {
		return nil, api.ErrMany
	}
	return sorted(append(slices.Clone(l), x)), api.OK
}

func modelFind(l []api.Entry, key string, seq int) (api.Entry, bool, api.Errno) {
	if e := modelCheck(l); e != api.OK {
		return api.Entry{}, false, e
	}
	if key == "" || len(key) > 256 {
		return api.Entry{}, false, api.ErrKey
	}
	if int64(seq) < 0 || int64(seq) >= 1<<31 {
		return api.Entry{}, false, api.ErrArg
	}
	var best api.Entry
	is := false
	for _, x := range l {
		if modelText(x.Key, key) == 0 && x.Seq <= seq && (!is || x.Seq > best.Seq) {
			best, is = x, true
		}
	}
	return best, is, api.OK
}

// sorted is a new list of the same entries, rising if they can.
func sorted(l []api.Entry) []api.Entry {
	l = slices.Clone(l)
	slices.SortStableFunc(l, modelOrder)
	return l
}

// chars is a text of n bytes c.
func chars(n int, c byte) string { return strings.Repeat(string([]byte{c}), n) }

func list(l ...api.Entry) []api.Entry { return l }

// put is an entry with a value, taken one that is Gone.
func put(key, value string, seq int) api.Entry { return api.Entry{Key: key, Value: value, Seq: seq} }

func taken(key string, seq int) api.Entry { return api.Entry{Key: key, Seq: seq, Gone: true} }

// numbered are n entries that rise, two of each key.
func numbered(n int) []api.Entry {
	l := make([]api.Entry, n)
	for i := range l {
		l[i] = put(fmt.Sprintf("key%05d", i/2), fmt.Sprint("value ", i), 10-i%2*5)
	}
	return l
}

// falling are n entries of one key.
func falling(key string, n int) []api.Entry {
	l := make([]api.Entry, n)
	for i := range l {
		l[i] = taken(key, 2*(n-1-i))
	}
	return l
}

// edges are the bytes of drawn keys, few of them, so that keys often begin alike.
const edges = "\x00\x01a\x7f\x80\xff"

func drawText(r *rand.Rand, most int) string {
	b := make([]byte, r.Intn(most+1))
	for i := range b {
		if b[i] = edges[r.Intn(len(edges))]; r.Intn(8) == 0 {
			b[i] = byte(r.Intn(256))
		}
	}
	return string(b)
}

func drawSeq(r *rand.Rand) int {
	near := []int{0, 1, 2, 3, 4, 5, 127, 128, 1 << 28, last - 1, last}
	if r.Intn(3) == 0 {
		return r.Intn(1 << (1 + r.Intn(31)))
	}
	return near[r.Intn(len(near))]
}

func drawKey(r *rand.Rand) string {
	key := drawText(r, []int{1, 2, 2, 4, 20, api.MaxKey}[r.Intn(6)])
	if key == "" {
		return "k"
	}
	return key
}

func drawEntry(r *rand.Rand) api.Entry {
	x := api.Entry{Key: drawKey(r), Seq: drawSeq(r), Gone: r.Intn(3) == 0}
	if !x.Gone {
		x.Value = drawText(r, []int{0, 1, 3, 60, 400}[r.Intn(5)])
	}
	return x
}

// drawAny is an entry that often may not be.
func drawAny(r *rand.Rand) api.Entry {
	x := drawEntry(r)
	switch r.Intn(12) {
	case 0:
		x.Key = ""
	case 1:
		x.Key = chars(api.MaxKey+1+r.Intn(3), 'k')
	case 2:
		x.Value = chars(api.MaxValue+1+r.Intn(3), 'v')
	case 3:
		x.Seq = -1 - x.Seq
	case 4:
		x.Seq += 1 << 31
	case 5:
		x.Gone, x.Value = true, "v"
	}
	return x
}

// drawEntries are n entries in any order; many have the key of another one, or begin with it, and some its Seq too.
func drawEntries(r *rand.Rand, n int, draw func(*rand.Rand) api.Entry) []api.Entry {
	var l []api.Entry
	for range n {
		x := draw(r)
		if len(l) > 0 && r.Intn(2) == 0 {
			y := l[r.Intn(len(l))]
			x.Key = y.Key
			if more := drawText(r, 2); r.Intn(3) == 0 && len(x.Key)+len(more) <= api.MaxKey {
				x.Key += more
			}
			if r.Intn(4) == 0 {
				x.Seq = y.Seq
			}
		}
		l = append(l, x)
	}
	return l
}

// drawList is of at most most entries that rise.
func drawList(r *rand.Rand, most int) []api.Entry {
	l := sorted(drawEntries(r, r.Intn(most+1), drawEntry))
	return slices.CompactFunc(l, func(a, b api.Entry) bool { return modelOrder(a, b) == 0 })
}

func shuffled(r *rand.Rand, l []api.Entry) []api.Entry {
	l = slices.Clone(l)
	r.Shuffle(len(l), func(i, k int) { l[i], l[k] = l[k], l[i] })
	return l
}
