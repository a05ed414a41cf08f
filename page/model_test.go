package page

import (
	"encoding/binary"
	"fmt"
	"hash/crc32"
	"math/rand"
	"slices"
	"strings"

	"docket/api"
)

// What the chapter says of entries and pages, told once more by other means: numbers and sums come out of the library, and bytes are a page if they are what the entries that they seem to tell are written as. The model calls none of the package's functions.

// cap16 is how many bytes a page has at most.
const cap16 = 65536

func modelText(a, b string) int {
	for i := 0; i < len(a) && i < len(b); i++ {
		if a[i] != b[i] {
			return int(a[i]) - int(b[i])
		}
	}
	return len(a) - len(b)
}

func modelLess(a, b api.Entry) bool {
	if c := modelText(a.Key, b.Key); c != 0 {
		return c < 0
	}
	return b.Seq < a.Seq
}

func modelCheck(l []api.Entry) api.Errno {
	if len(l) > 4096 {
		return api.ErrMany
	}
	for i, x := range l {
		if len(x.Key) == 0 || len(x.Key) > 256 {
			return api.ErrKey
		}
		if len(x.Value) > 4096 {
			return api.ErrText
		}
		if int64(x.Seq) < 0 || int64(x.Seq) >= 1<<31 {
			return api.ErrArg
		}
		if x.Gone && len(x.Value) > 0 {
			return api.ErrBad
		}
		if i > 0 && !modelLess(l[i-1], x) {
			return api.ErrOrder
		}
	}
	return api.OK
}

func modelMake(l []api.Entry) ([]byte, api.Errno) {
	if e := modelCheck(l); e != api.OK {
		return nil, e
	}
	b := sealed(modelBody(l))
	if len(b) > cap16 {
		return nil, api.ErrCap
	}
	return b, api.OK
}

// modelBody is a page without its sum.
func modelBody(l []api.Entry) []byte {
	parts := []any{len(l)}
	ahead := ""
	for _, x := range l {
		n := len(x.Key)
		for !strings.HasPrefix(ahead, x.Key[:n]) {
			n--
		}
		parts = append(parts, n, x.Key[n:], x.Seq)
		if x.Gone {
			parts = append(parts, byte(1))
		} else {
			parts = append(parts, byte(0), x.Value)
		}
		ahead = x.Key
	}
	return body(parts...)
}

// body writes parts one behind the other: a number in its small bytes, a text behind its length, a byte and bytes as they are.
func body(parts ...any) []byte {
	var b []byte
	for _, p := range parts {
		switch x := p.(type) {
		case int:
			b = binary.AppendUvarint(b, uint64(x))
		case string:
			b = append(binary.AppendUvarint(b, uint64(len(x))), x...)
		case byte:
			b = append(b, x)
		case []byte:
			b = append(b, x...)
		}
	}
	return b
}

// sealed is b with its sum behind.
func sealed(b []byte) []byte {
	return binary.LittleEndian.AppendUint32(slices.Clone(b), crc32.ChecksumIEEE(b))
}

// pageOf is the page of parts, with its sum.
func pageOf(parts ...any) []byte { return sealed(body(parts...)) }

// modelRead takes the entries that the bytes seem to tell, without a question whether they may, and then asks whether their page is b.
func modelRead(b []byte) ([]api.Entry, api.Errno) {
	l, ok := guess(b)
	if !ok {
		return nil, api.ErrBad
	}
	if again, e := modelMake(l); e != api.OK || string(again) != string(b) {
		return nil, api.ErrBad
	}
	return l, api.OK
}

func guess(b []byte) ([]api.Entry, bool) {
	many, b, ok := guessNumber(b)
	if !ok || many > 1<<16 {
		return nil, false
	}
	var l []api.Entry
	ahead := ""
	for range many {
		var n, seq uint64
		var more, value string
		if n, b, ok = guessNumber(b); !ok || n > uint64(len(ahead)) {
			return nil, false
		}
		if more, b, ok = guessText(b); !ok || len(more) > 1<<9 {
			return nil, false
		}
		if seq, b, ok = guessNumber(b); !ok || len(b) == 0 {
			return nil, false
		}
		is := b[0] == 1
		b = b[1:]
		if !is {
			if value, b, ok = guessText(b); !ok {
				return nil, false
			}
		}
		ahead = ahead[:n] + more
		if len(ahead) > 1<<9 {
			return nil, false
		}
		l = append(l, api.Entry{Key: ahead, Value: value, Seq: int(seq), Gone: is})
	}
	return l, true
}

func guessNumber(b []byte) (uint64, []byte, bool) {
	n, k := binary.Uvarint(b)
	if k <= 0 {
		return 0, nil, false
	}
	return n, b[k:], true
}

func guessText(b []byte) (string, []byte, bool) {
	n, b, ok := guessNumber(b)
	if !ok || n > uint64(len(b)) {
		return "", nil, false
	}
	return string(b[:n]), b[n:], true
}

func modelFind(b []byte, key string) (api.Entry, bool, api.Errno) {
	l, e := modelRead(b)
	if e != api.OK {
		return api.Entry{}, false, e
	}
	if key == "" || len(key) > 256 {
		return api.Entry{}, false, api.ErrKey
	}
	at := slices.IndexFunc(l, func(x api.Entry) bool { return modelText(x.Key, key) == 0 })
	if at < 0 {
		return api.Entry{}, false, api.OK
	}
	return l[at], true, api.OK
}

// chars is a text of n bytes c.
func chars(n int, c byte) string { return strings.Repeat(string([]byte{c}), n) }

func list(l ...api.Entry) []api.Entry { return l }

// put is an entry with a value, taken one that is Gone.
func put(key, value string, seq int) api.Entry { return api.Entry{Key: key, Value: value, Seq: seq} }

func taken(key string, seq int) api.Entry { return api.Entry{Key: key, Seq: seq, Gone: true} }

// numbered are n entries that rise, each of a key of its own.
func numbered(n int) []api.Entry {
	l := make([]api.Entry, n)
	for i := range l {
		l[i] = api.Entry{Key: fmt.Sprintf("key%07d", i)}
	}
	return l
}

// sized are entries that rise and whose page has so many bytes: some of the longest values, and a last one that is cut to fit.
func sized(size int) []api.Entry {
	var l []api.Entry
	for i := 0; ; i++ {
		l = append(l, put(fmt.Sprintf("big%02d", i), chars(api.MaxValue, byte(i)), i))
		if over := len(sealed(modelBody(l))) - size; over >= 0 {
			l[i].Value = l[i].Value[over:]
			return l
		}
	}
}

// edges are the bytes of drawn keys, few of them, so that keys often begin alike.
const edges = "\x00\x01a\x7f\x80\xff"

func drawText(r *rand.Rand, most int) string {
	b := make([]byte, r.Intn(most+1))
	for i := range b {
		if b[i] = edges[r.Intn(len(edges))]; r.Intn(8) == 0 {
			b[i] = byte(r.Intn(256))
		}
	}
	return string(b)
}

func drawSeq(r *rand.Rand) int {
	near := []int{0, 1, 2, 127, 128, 16383, 16384, 1 << 21, 1 << 28, 1<<31 - 1}
	if r.Intn(3) == 0 {
		return r.Intn(1 << (1 + r.Intn(31)))
	}
	return near[r.Intn(len(near))]
}

func drawKey(r *rand.Rand) string {
	key := drawText(r, []int{1, 2, 4, 20, api.MaxKey}[r.Intn(5)])
	if key == "" {
		return "k"
	}
	return key
}

func drawEntry(r *rand.Rand) api.Entry {
	x := api.Entry{Key: drawKey(r), Seq: drawSeq(r), Gone: r.Intn(3) == 0}
	if !x.Gone {
		x.Value = drawText(r, []int{0, 1, 3, 130, 400, api.MaxValue}[r.Intn(6)])
	}
	return x
}

// drawList is of at most most entries that rise; many have the key of the one ahead, or begin with it.
func drawList(r *rand.Rand, most int) []api.Entry {
	var l []api.Entry
	for range r.Intn(most + 1) {
		x := drawEntry(r)
		if n := len(l); n > 0 && r.Intn(2) == 0 {
			x.Key = l[r.Intn(n)].Key
			if more := drawText(r, 2); r.Intn(2) == 0 && len(x.Key)+len(more) <= api.MaxKey {
				x.Key += more
			}
		}
		l = append(l, x)
	}
	slices.SortFunc(l, func(a, b api.Entry) int {
		if modelLess(a, b) {
			return -1
		}
		if modelLess(b, a) {
			return 1
		}
		return 0
	})
	return slices.CompactFunc(l, func(a, b api.Entry) bool { return a.Key == b.Key && a.Seq == b.Seq })
}
