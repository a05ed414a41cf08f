package hash

import (
	"crypto/hmac"
	"crypto/sha256"
	"fmt"
	"math/rand"
	"strings"

	"docket/api"
)

// What the chapter says, told once more by other means: digests and seals come out of the library, sixteens out of fmt and a table of all pairs. The model calls none of the package's functions.

func modelSum(b []byte) [32]byte { return sha256.Sum256(b) }

func modelSealed(secret, b []byte) [32]byte {
	h := hmac.New(sha256.New, secret)
	h.Write(b)
	return [32]byte(h.Sum(nil))
}

func modelHex(b []byte) string { return fmt.Sprintf("%x", b) }

// pairs has each byte by the two sixteens that it is written in.
func pairs() map[string]byte {
	m := map[string]byte{}
	for c := range 256 {
		m[fmt.Sprintf("%02x", c)] = byte(c)
	}
	return m
}

func modelUnhex(s string) ([]byte, api.Errno) {
	var b []byte
	known := pairs()
	for s != "" {
		pair := s[:min(2, len(s))]
		c, is := known[pair]
		if !is {
			return nil, api.ErrText
		}
		b = append(b, c)
		s = s[2:]
	}
	return b, api.OK
}

func modelSame(a, b []byte) bool { return string(a) == string(b) }

func modelPass(salt, pass string, times int) (string, api.Errno) {
	if len(salt) > 16384 || len(pass) > 16384 {
		return "", api.ErrText
	}
	if times < 1 || times > 64 {
		return "", api.ErrArg
	}
	for range times {
		d := modelSealed([]byte(salt), []byte(pass))
		pass = string(d[:])
	}
	return modelHex([]byte(pass)), api.OK
}

// chars is a text of n bytes c.
func chars(n int, c byte) string { return strings.Repeat(string([]byte{c}), n) }

// counted are n bytes by a rule that a telling elsewhere can follow: 3, 10, 17 and so on, by 251.
func counted(n int) []byte {
	b := make([]byte, n)
	for i := range b {
		b[i] = byte((7*i + 3) % 251)
	}
	return b
}

// edgeSizes are those at which what stands behind the bytes, or a key, changes its form.
func edgeSizes() []int {
	return []int{0, 1, 2, 3, 4, 31, 32, 33, 54, 55, 56, 57, 62, 63, 64, 65, 66, 118, 119, 120, 121, 126, 127, 128, 129, 183, 184, 191, 192, 193, 255, 256, 257}
}

// drawSize is often one of the edges, and seldom a great one.
func drawSize(r *rand.Rand) int {
	switch r.Intn(8) {
	case 0, 1, 2:
		return edgeSizes()[r.Intn(len(edgeSizes()))]
	case 3:
		return r.Intn(5000)
	}
	return r.Intn(200)
}

func drawBytes(r *rand.Rand, n int) []byte {
	b := make([]byte, n)
	for i := range b {
		if b[i] = byte(r.Intn(256)); r.Intn(4) == 0 {
			b[i] = "\x00\x36\x5c\x80\xff"[r.Intn(5)]
		}
	}
	return b
}

// drawSixteens is a text that Unhex reads, unless one byte of it was turned or it lost its last one; n is how many bytes it tells.
func drawSixteens(r *rand.Rand, n int) string {
	b := make([]byte, 2*n)
	for i := range b {
		b[i] = "0123456789abcdef"[r.Intn(16)]
	}
	if len(b) > 0 {
		switch r.Intn(4) {
		case 0:
			b[r.Intn(len(b))] = byte(r.Intn(256))
		case 1:
			b = b[:len(b)-1]
		}
	}
	return string(b)
}

// drawText is one that Pass takes, or, seldom, one that is too long.
func drawText(r *rand.Rand) string {
	if r.Intn(12) == 0 {
		return chars(api.MaxText-1+r.Intn(3), byte(r.Intn(256)))
	}
	return string(drawBytes(r, drawSize(r)))
}
