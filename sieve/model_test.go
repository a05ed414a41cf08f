package sieve

import (
	"fmt"
	"hash/crc32"
	"math/rand"
	"strings"

	"docket/api"
)

// What the chapter says of marks and filters, told once more by other means: sums come out of the library, are added in 64 bits, and a filter is a set of numbers. The model calls none of the package's functions.

// sums are a key's two: of its bytes, and of them and a byte 1 behind.
func sums(key string) (h, g uint64) {
	return uint64(crc32.ChecksumIEEE([]byte(key))), uint64(crc32.ChecksumIEEE([]byte(key + "\x01")))
}

func modelMarks(key string, many int) ([]int, api.Errno) {
	if len(key) > 256 {
		return nil, api.ErrText
	}
	if many < 1 || many > 65536 {
		return nil, api.ErrArg
	}
	h, g := sums(key)
	if g%2 == 0 {
		g++
	}
	var l []int
	for i := range uint64(4) {
		l = append(l, int((h+i*g)%(1<<32)%uint64(many)))
	}
	return l, api.OK
}

func modelMake(keys []string, many int) ([]byte, api.Errno) {
	if len(keys) > 4096 {
		return nil, api.ErrMany
	}
	for _, key := range keys {
		if len(key) > 256 {
			return nil, api.ErrText
		}
	}
	if many < 8 || many > 65536 || many%8 != 0 {
		return nil, api.ErrArg
	}
	marked := map[int]bool{}
	for _, key := range keys {
		l, _ := modelMarks(key, many)
		for _, n := range l {
			marked[n] = true
		}
	}
	return filter(many, func(n int) bool { return marked[n] }), api.OK
}

// filter is the one of many bits that has just those of which is is true.
func filter(many int, is func(n int) bool) []byte {
	var b []byte
	for n := 0; n < many; n += 8 {
		worth := 0
		for i := range 8 {
			if is(n + i) {
				worth += []int{1, 2, 4, 8, 16, 32, 64, 128}[i]
			}
		}
		b = append(b, byte(worth))
	}
	return b
}

// bit tells whether a filter's bit n is set.
func bit(b []byte, n int) bool {
	c := b[n/8]
	for range n % 8 {
		c /= 2
	}
	return c%2 == 1
}

func modelHas(b []byte, key string) (bool, api.Errno) {
	if len(b) < 1 || len(b) > 8192 {
		return false, api.ErrArg
	}
	l, e := modelMarks(key, 8*len(b))
	for _, n := range l {
		if !bit(b, n) {
			return false, e
		}
	}
	return e == api.OK, e
}

// chars is a text of n bytes c.
func chars(n int, c byte) string { return strings.Repeat(string([]byte{c}), n) }

// edgeKeys are the keys that may be and that the chapter and its limits name.
func edgeKeys() []string {
	keys := []string{"", "a", "b", "ab", "ba", "case", "\x00\x00", "\x00\x01", "\x01\x00", "\x01\x01", "a\x01", "a\x01\x01", "\x01a", "a\x00", "a\xff", "\xff\xff", "\xff\x01", "über\xc3"}
	for c := range 256 {
		keys = append(keys, string([]byte{byte(c)}))
	}
	for _, c := range []byte{0, 1, 'a', 255} {
		keys = append(keys, chars(api.MaxKey-1, c), chars(api.MaxKey, c), chars(api.MaxKey-1, c)+"\x01", chars(api.MaxKey-2, c)+"\x01")
	}
	return keys
}

// longKeys have more bytes than a key may have.
func longKeys() []string {
	return []string{chars(api.MaxKey+1, 'a'), chars(api.MaxKey+1, 0), chars(api.MaxKey, 255) + "\x01", chars(2*api.MaxKey, 1), chars(1<<20, 'a')}
}

// numbered are n keys, each another one.
func numbered(n int) []string {
	keys := make([]string, n)
	for i := range keys {
		keys[i] = fmt.Sprint("key", i)
	}
	return keys
}

// drawKey is one that may be, often of few bytes, and often of the bytes that the chapter names.
func drawKey(r *rand.Rand) string {
	most := []int{2, 12, 40, api.MaxKey}[r.Intn(4)]
	b := make([]byte, r.Intn(most+1))
	for i := range b {
		if b[i] = byte(r.Intn(256)); r.Intn(2) == 0 {
			b[i] = "\x00\x01a\xff"[r.Intn(4)]
		}
	}
	if r.Intn(4) == 0 && len(b) > 0 {
		b[len(b)-1] = 1
	}
	return string(b)
}

func drawKeys(r *rand.Rand, most int) []string {
	keys := make([]string, r.Intn(most+1))
	for i := range keys {
		keys[i] = drawKey(r)
	}
	return keys
}

// drawSize is a number of bits that a filter may have.
func drawSize(r *rand.Rand) int {
	return 8 * (1 + r.Intn([]int{1, 4, 40, 400, 8192}[r.Intn(5)]))
}
