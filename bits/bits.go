// Package bits is layer 1: numbers and texts as bytes, and sums of bytes. See shared/doc/01-bits.md.
package bits

import "docket/api"

// A number below 2^64 has ten small bytes at most: nine of seven bits each, and one bit for the tenth.
const (
	lastSmall    = 9
	lastSmallTop = 1
)

// The start of the cyclic sum, and what an odd remainder is changed by.
const (
	sumStart  uint32 = 4294967295
	sumChange uint32 = 3988292384
)

// Put writes n in eight bytes, the lowest first.
func Put(n uint64) []byte {
	a := split(n)
	return a[:]
}

// Get reads a number out of its eight bytes.
func Get(b []byte) (uint64, api.Errno) {
	if len(b) != 8 {
		return 0, api.ErrBad
	}
	return join([8]byte(b)), api.OK
}

// split answers an array, a value of its own, so that each caller of Put has bytes that nobody else has.
func split(n uint64) [8]byte {
	var a [8]byte
	for i := range a {
		a[i] = byte(n >> (8 * i))
	}
	return a
}

func join(a [8]byte) uint64 {
	var n uint64
	for i, c := range a {
		n |= uint64(c) << (8 * i)
	}
	return n
}

// Small writes n in one to ten bytes, seven bits each, the lowest first.
func Small(n uint64) []byte {
	var b []byte
	for n >= 128 {
		b = append(b, byte(n)|128)
		n >>= 7
	}
	return append(b, byte(n))
}

// Read reads the small bytes at the head of b: the number, and how many they are.
func Read(b []byte) (uint64, int, api.Errno) {
	var n uint64
	for i, c := range b {
		// Beyond this the number would not be below 2^64; so the walk ends here at the latest.
		if i == lastSmall && c > lastSmallTop {
			return 0, 0, api.ErrBad
		}
		n |= uint64(c&127) << (7 * i)
		if c >= 128 {
			continue
		}
		// A last byte of 0 adds nothing: the number has fewer bytes.
		if c == 0 && i > 0 {
			return 0, 0, api.ErrBad
		}
		return n, i + 1, api.OK
	}
	return 0, 0, api.ErrBad
}

// Text writes s behind its length.
func Text(s string) []byte {
	return append(Small(uint64(len(s))), s...)
}

// Cut reads the text at the head of b, and answers it with a copy of what is behind it.
func Cut(b []byte) (string, []byte, api.Errno) {
	n, k, e := Read(b)
	if e != api.OK {
		return "", nil, e
	}
	// Compared as it is: a length near 2^64 would be below 0 as an int.
	if n > uint64(len(b)-k) {
		return "", nil, api.ErrBad
	}
	end := k + int(n)
	return string(b[k:end]), append([]byte(nil), b[end:]...), api.OK
}

// Sum is the cyclic sum of b by 32 bits.
func Sum(b []byte) uint32 {
	r := sumStart
	for _, c := range b {
		r = sumStep(r ^ uint32(c))
	}
	return ^r
}

// sumStep takes the lowest eight bits out of a remainder.
func sumStep(r uint32) uint32 {
	for range 8 {
		odd := r & 1
		r >>= 1
		if odd == 1 {
			r ^= sumChange
		}
	}
	return r
}
