package hash

import (
	"encoding/binary"
	"math/big"
	"math/rand"
	"testing"
)

// roots are the first 32 bits behind the point of the roots of the first primes: root is that of a number that is moved up far enough.
func roots(many int, up uint, root func(n *big.Int) *big.Int) []word {
	var l []word
	for p := int64(2); len(l) < many; p++ {
		if big.NewInt(p).ProbablyPrime(0) {
			n := new(big.Int).Lsh(big.NewInt(p), up)
			l = append(l, word(uint32(root(n).Uint64())))
		}
	}
	return l
}

// cubeRoot is the greatest whole number whose cube is not above n.
func cubeRoot(n *big.Int) *big.Int {
	low, high := big.NewInt(0), new(big.Int).Set(n)
	for low.Cmp(high) < 0 {
		mid := new(big.Int).Add(low, high)
		mid.Add(mid, big.NewInt(1)).Rsh(mid, 1)
		if new(big.Int).Exp(mid, big.NewInt(3), nil).Cmp(n) <= 0 {
			low = mid
		} else {
			high = mid.Sub(mid, big.NewInt(1))
		}
	}
	return low
}

func TestWordsAreRootsOfPrimes(t *testing.T) {
	squares := roots(8, 64, func(n *big.Int) *big.Int { return new(big.Int).Sqrt(n) })
	for i, w := range first() {
		if w != squares[i] {
			t.Errorf("H%d is %08x, want %08x", i, w, squares[i])
		}
	}
	cubes := roots(64, 96, cubeRoot)
	for i, w := range constants {
		if w != cubes[i] {
			t.Errorf("K%d is %08x, want %08x", i, w, cubes[i])
		}
	}
}

// What stands behind is told apart from the bytes, so that sizes are tried whose bytes would be too many to lay down.
func TestBehindAnySize(t *testing.T) {
	sizes := []uint64{1<<13 - 1, 1 << 13, 1<<21 - 1, 1 << 21, 1<<29 - 1, 1 << 29, 1<<29 + 1, 1<<31 - 1, 1 << 31, 1<<32 + 55, 1<<37 - 1, 1 << 37, 1<<61 - 1}
	for n := range uint64(200) {
		sizes = append(sizes, n)
	}
	for _, size := range sizes {
		b := behind(size)
		noughts := len(b) - 9
		if (size+uint64(len(b)))%64 != 0 || noughts < 0 || noughts > 63 {
			t.Errorf("%d bytes stand behind %d", len(b), size)
			continue
		}
		want := append([]byte{128}, make([]byte, noughts)...)
		want = binary.BigEndian.AppendUint64(want, 8*size)
		if string(b) != string(want) {
			t.Errorf("behind %d bytes stand %v, want %v", size, b, want)
		}
	}
}

// A digest hangs on the bytes, not on how they are cut into pieces.
func TestDigestOfPieces(t *testing.T) {
	if digest() != modelSum(nil) || digest(nil, []byte{}, nil) != modelSum(nil) {
		t.Error("the digest of no pieces, or of empty ones, is not that of nothing")
	}
	for n := range 300 {
		b := counted(n)
		for _, at := range []int{0, 1, n / 2, min(n, 55), min(n, 63), min(n, 64), min(n, 65), min(n, 128), n} {
			if at = min(at, n); digest(b[:at], b[at:]) != modelSum(b) {
				t.Errorf("%d bytes cut at %d have another digest", n, at)
			}
		}
	}
	r := rand.New(rand.NewSource(14))
	for range 2000 {
		b := drawBytes(r, drawSize(r))
		var pieces [][]byte
		for rest := b; len(rest) > 0; {
			n := r.Intn(min(len(rest), 1+r.Intn(200)) + 1)
			pieces = append(pieces, rest[:n])
			rest = rest[n:]
		}
		if digest(pieces...) != modelSum(b) {
			t.Fatalf("%d bytes in %d pieces have another digest", len(b), len(pieces))
		}
	}
}

func TestTurned(t *testing.T) {
	for _, c := range []struct {
		w    word
		n    uint
		want word
	}{{1, 1, 1 << 31}, {1, 2, 1 << 30}, {1 << 31, 31, 1}, {0x12345678, 8, 0x78123456}, {0x12345678, 4, 0x81234567}, {0xffffffff, 7, 0xffffffff}, {0, 25, 0}, {0x80000001, 1, 0xc0000000}} {
		if got := turned(c.w, c.n); got != c.want {
			t.Errorf("turned(%08x, %d) = %08x, want %08x", c.w, c.n, got, c.want)
		}
	}
}
