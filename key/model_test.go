package key

import (
	"math/big"
	"math/rand"
	"strings"

	"docket/api"
)

// What the chapter says of keys, told once more by other means: numbers are added as they stand there, keys are cut by trying, orders are walked.

// bytesOf are the bytes of a part that may be.
func bytesOf(p api.Part) string {
	if p.Kind == api.PartText {
		return "\x02" + strings.ReplaceAll(p.Text, "\x00", "\x00\xff") + "\x00\x01"
	}
	two63 := new(big.Int).Lsh(big.NewInt(1), 63)
	sum := new(big.Int).Add(big.NewInt(p.Int), two63)
	return "\x01" + string(sum.FillBytes(make([]byte, 8)))
}

func allowed(p api.Part) bool {
	return p.Kind == api.PartInt && p.Text == "" || p.Kind == api.PartText && p.Int == 0
}

func modelMake(l []api.Part) (string, api.Errno) {
	if len(l) > api.MaxParts {
		return "", api.ErrMany
	}
	out := ""
	for _, p := range l {
		if !allowed(p) {
			return "", api.ErrBad
		}
		out += bytesOf(p)
	}
	if len(out) > api.MaxKey {
		return "", api.ErrKey
	}
	return out, api.OK
}

// lists are all lists of parts whose bytes, one behind the other, are s: each beginning of s is held against the bytes of the part that it could be.
func lists(s string) [][]api.Part {
	if s == "" {
		return [][]api.Part{nil}
	}
	var all [][]api.Part
	for n := 1; n <= len(s); n++ {
		for _, p := range guesses(s[:n]) {
			if bytesOf(p) != s[:n] {
				continue
			}
			for _, rest := range lists(s[n:]) {
				all = append(all, append([]api.Part{p}, rest...))
			}
		}
	}
	return all
}

// guesses are the parts whose bytes s could be, if it is some part's at all.
func guesses(s string) []api.Part {
	var all []api.Part
	if len(s) == 9 {
		n := new(big.Int).SetBytes([]byte(s[1:]))
		n.Sub(n, new(big.Int).Lsh(big.NewInt(1), 63))
		all = append(all, api.Part{Kind: api.PartInt, Int: n.Int64()})
	}
	if len(s) >= 3 {
		text := strings.ReplaceAll(s[1:len(s)-2], "\x00\xff", "\x00")
		all = append(all, api.Part{Kind: api.PartText, Text: text})
	}
	return all
}

func modelCut(s string) ([]api.Part, api.Errno) {
	for _, l := range lists(s) {
		if got, e := modelMake(l); e == api.OK && got == s {
			return l, api.OK
		}
	}
	return nil, api.ErrKey
}

// aheadPart tells whether a part stands ahead of another one, in the chapter's words for parts that may be, and by Kind, Int and Text for the others.
func aheadPart(a, b api.Part) bool {
	if allowed(a) && allowed(b) {
		switch {
		case a.Kind == api.PartInt && b.Kind == api.PartInt:
			return a.Int < b.Int
		case a.Kind == api.PartText && b.Kind == api.PartText:
			return aheadText(a.Text, b.Text)
		}
		return a.Kind == api.PartInt
	}
	if a.Kind != b.Kind {
		return a.Kind < b.Kind
	}
	if a.Int != b.Int {
		return a.Int < b.Int
	}
	return aheadText(a.Text, b.Text)
}

func aheadText(a, b string) bool {
	for i := 0; i < len(a) && i < len(b); i++ {
		if a[i] != b[i] {
			return a[i] < b[i]
		}
	}
	return len(a) < len(b)
}

func modelLess(a, b []api.Part) bool {
	for i := 0; i < len(a) && i < len(b); i++ {
		if a[i] != b[i] {
			return aheadPart(a[i], b[i])
		}
	}
	return len(a) < len(b)
}

// modelAfter tries all texts that differ from key at their last byte, by a greater one: each text behind all that begin with key begins with one of these.
func modelAfter(key string) (string, bool) {
	least, found := "", false
	for i := range len(key) {
		for c := int(key[i]) + 1; c <= 255; c++ {
			t := key[:i] + string([]byte{byte(c)})
			if !found || aheadText(t, least) {
				least, found = t, true
			}
		}
	}
	return least, found
}

// texts are all of at most most bytes, each one of those of alphabet.
func texts(alphabet string, most int) []string {
	all := []string{""}
	last := all
	for range most {
		var next []string
		for _, s := range last {
			for i := range len(alphabet) {
				next = append(next, s+alphabet[i:i+1])
			}
		}
		all, last = append(all, next...), next
	}
	return all
}

// edges are the bytes at which keys turn: those that are told apart behind a byte 0, the marks, the greatest.
const edges = "\x00\x01\x02a\xfe\xff"

func drawText(r *rand.Rand, most int) string {
	b := make([]byte, r.Intn(most+1))
	for i := range b {
		if r.Intn(4) == 0 {
			b[i] = byte(r.Intn(256))
		} else {
			b[i] = edges[r.Intn(len(edges))]
		}
	}
	return string(b)
}

func drawPart(r *rand.Rand, most int) api.Part {
	if r.Intn(2) == 0 {
		return api.Part{Kind: api.PartText, Text: drawText(r, most)}
	}
	near := []int64{-1 << 63, -1, 0, 1<<63 - 1, 255, 256, -256}
	n := near[r.Intn(len(near))] + int64(r.Intn(3)-1)
	if r.Intn(3) == 0 {
		n = int64(r.Uint64())
	}
	return api.Part{Kind: api.PartInt, Int: n}
}

// drawList is of parts that may be; some are too many, and some have more bytes than a key.
func drawList(r *rand.Rand, most int) []api.Part {
	l := make([]api.Part, r.Intn(api.MaxParts+2))
	for i := range l {
		l[i] = drawPart(r, most)
	}
	return l
}

// drawNear is a list that is often the same as l for some parts.
func drawNear(r *rand.Rand, l []api.Part, most int) []api.Part {
	out := append([]api.Part{}, l[:r.Intn(len(l)+1)]...)
	for r.Intn(2) == 0 && len(out) < api.MaxParts {
		out = append(out, drawPart(r, most))
	}
	if n := len(out); n > 0 && r.Intn(2) == 0 && out[n-1].Kind == api.PartText {
		out[n-1].Text += drawText(r, 2)
	}
	return out
}
