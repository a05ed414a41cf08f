package hash

// How many bytes are mixed in at once, how many a digest has, how many words these are, and how many rounds a block is mixed in by.
const (
	blockSize  = 64
	digestSize = 32
	wordSize   = 4
	words      = digestSize / wordSize
	blockWords = blockSize / wordSize
	rounds     = 64
)

// Behind the bytes stand one of these, noughts, and how many bits the bytes had, in so many bytes.
const (
	mark     byte = 0x80
	bitsSize      = 8
)

// word is a number of 32 bits; sums of words wrap round at 2^32, as the chapter asks.
type word uint32

// constants has for each round the first 32 bits behind the point of a prime's cube root.
var constants = [rounds]word{
	0x428a2f98, 0x71374491, 0xb5c0fbcf, 0xe9b5dba5, 0x3956c25b, 0x59f111f1, 0x923f82a4, 0xab1c5ed5,
	0xd807aa98, 0x12835b01, 0x243185be, 0x550c7dc3, 0x72be5d74, 0x80deb1fe, 0x9bdc06a7, 0xc19bf174,
	0xe49b69c1, 0xefbe4786, 0x0fc19dc6, 0x240ca1cc, 0x2de92c6f, 0x4a7484aa, 0x5cb0a9dc, 0x76f988da,
	0x983e5152, 0xa831c66d, 0xb00327c8, 0xbf597fc7, 0xc6e00bf3, 0xd5a79147, 0x06ca6351, 0x14292967,
	0x27b70a85, 0x2e1b2138, 0x4d2c6dfc, 0x53380d13, 0x650a7354, 0x766a0abb, 0x81c2c92e, 0x92722c85,
	0xa2bfe8a1, 0xa81a664b, 0xc24b8b70, 0xc76c51a3, 0xd192e819, 0xd6990624, 0xf40e3585, 0x106aa070,
	0x19a4c116, 0x1e376c08, 0x2748774c, 0x34b0bcb5, 0x391c0cb3, 0x4ed8aa4a, 0x5b9cca4f, 0x682e6ff3,
	0x748f82ee, 0x78a5636f, 0x84c87814, 0x8cc70208, 0x90befffa, 0xa4506ceb, 0xbef9a3f7, 0xc67178f2,
}

// first is what the words of a digest begin as: the first 32 bits behind the point of the square roots of the first eight primes.
func first() [words]word {
	return [words]word{0x6a09e667, 0xbb67ae85, 0x3c6ef372, 0xa54ff53a, 0x510e527f, 0x9b05688c, 0x1f83d9ab, 0x5be0cd19}
}

// running is a digest under way: its words behind all whole blocks, the bytes of the block that is not whole yet, and how many bytes came in all.
type running struct {
	words [words]word
	block [blockSize]byte
	size  uint64
}

// digest is the one of pieces, one behind another: they are never put together, however long they are.
func digest(pieces ...[]byte) [digestSize]byte {
	r := running{words: first()}
	for _, p := range pieces {
		r.take(p)
	}
	r.take(behind(r.size))
	return told(r.words)
}

// take mixes in each block as soon as it is whole.
func (r *running) take(b []byte) {
	for len(b) > 0 {
		n := copy(r.block[r.size%blockSize:], b)
		b = b[n:]
		r.size += uint64(n)
		if r.size%blockSize == 0 {
			r.words = mixed(r.words, r.block)
		}
	}
}

// behind is what makes size bytes longer, up to a whole block.
func behind(size uint64) []byte {
	over := (size + 1 + bitsSize) % blockSize
	b := make([]byte, 1+(blockSize-over)%blockSize, blockSize+bitsSize)
	b[0] = mark
	bits := 8 * size
	for i := range bitsSize {
		b = append(b, byte(bits>>(8*(bitsSize-1-i))))
	}
	return b
}

// mixed is what the words are behind one more block.
func mixed(from [words]word, block [blockSize]byte) [words]word {
	s := schedule(block)
	a, b, c, d, e, f, g, h := from[0], from[1], from[2], from[3], from[4], from[5], from[6], from[7]
	for i := range rounds {
		s1 := turned(e, 6) ^ turned(e, 11) ^ turned(e, 25)
		s0 := turned(a, 2) ^ turned(a, 13) ^ turned(a, 22)
		t1 := h + s1 + (e&f ^ ^e&g) + constants[i] + s[i]
		t2 := s0 + (a&b ^ a&c ^ b&c)
		a, b, c, d, e, f, g, h = t1+t2, a, b, c, d+t1, e, f, g
	}
	to := [words]word{a, b, c, d, e, f, g, h}
	for i := range to {
		to[i] += from[i]
	}
	return to
}

// schedule is a word for each round: the block's own, and further ones made of those ahead.
func schedule(block [blockSize]byte) [rounds]word {
	var w [rounds]word
	for i, c := range block {
		w[i/wordSize] = w[i/wordSize]<<8 | word(c)
	}
	for i := blockWords; i < rounds; i++ {
		x, y := w[i-15], w[i-2]
		s0 := turned(x, 7) ^ turned(x, 18) ^ x>>3
		s1 := turned(y, 17) ^ turned(y, 19) ^ y>>10
		w[i] = w[i-16] + s0 + w[i-7] + s1
	}
	return w
}

// turned is w moved down by n bits, those that leave it coming in above.
func turned(w word, n uint) word {
	return w>>n | w<<(32-n)
}

// told is the bytes of words, the greatest first.
func told(l [words]word) [digestSize]byte {
	var b [digestSize]byte
	for i := range b {
		b[i] = byte(l[i/wordSize] >> (8 * (wordSize - 1 - i%wordSize)))
	}
	return b
}
