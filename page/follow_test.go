package page

import (
	"bytes"
	"math/rand"
	"slices"
	"testing"

	"docket/api"
)

// some are lists of entries that rise and have a page.
func some() [][]api.Entry {
	return [][]api.Entry{
		nil,
		list(put("a", "", 0)),
		list(put("ab", "x", 1), taken("abc", 0)),
		list(put("a", "new", 300), taken("a", 128), put("a", "old", 127), put("a\x00", "\x00\xff", last), taken("\xff", 0)),
		list(put(chars(api.MaxKey-1, 'k'), chars(200, 'v'), 2), put(chars(api.MaxKey, 'k'), "", 1), taken(chars(api.MaxKey, 'k'), 0)),
		numbered(60),
	}
}

// made is the page of entries that have one.
func made(t *testing.T, l []api.Entry) []byte {
	t.Helper()
	b, e := Make(l)
	if e != api.OK {
		t.Fatalf("Make(%s): error %d", short(l), e)
	}
	return b
}

func TestOnlyRead(t *testing.T) {
	lists := append(some(), sized(cap16), sized(cap16+1), numbered(api.MaxEntries+1), list(put("b", "", 0), put("a", "", 0)), list(put("", "", -1)))
	for _, l := range lists {
		whole := append(slices.Clone(l), put("spare", "room", 1), put("", "", -1))
		before := slices.Clone(whole)
		Make(whole[:len(l)])
		Check(whole[:len(l)])
		if !slices.Equal(whole, before) {
			t.Errorf("%s, or what is behind them, became others", short(l))
		}
		b := sealed(modelBody(l))
		for _, broken := range []byte{0, 1} {
			spare := append(slices.Clone(b), 170, 170, 170, 170, 170, 170, 170, 170)
			spare[len(b)-1] ^= broken
			was := slices.Clone(spare)
			Read(spare[:len(b)])
			for _, key := range []string{"a", "abc", "", chars(api.MaxKey, 'k'), chars(api.MaxKey+1, 'k')} {
				Find(spare[:len(b)], key)
			}
			if !bytes.Equal(spare, was) {
				t.Errorf("the page of %s, or what is behind it, became another one", short(l))
			}
		}
	}
}

// spoil writes over a list, its spare room too.
func spoil[T any](l []T, v T) {
	l = l[:cap(l)]
	for i := range l {
		l[i] = v
	}
}

func TestNewMemory(t *testing.T) {
	for _, l := range some() {
		want, _ := modelMake(l)
		arg := slices.Clone(l)
		first, second := made(t, arg), made(t, arg)
		spoil(first, 85)
		spoil(arg, put("other", "entry", 1))
		if !bytes.Equal(second, want) {
			t.Errorf("the page of %s became another one", short(l))
		}
		b := slices.Clone(want)
		one, _ := Read(b)
		two, _ := Read(b)
		spoil(one, put("other", "entry", 1))
		if !bytes.Equal(b, want) || !slices.Equal(two, l) {
			t.Errorf("a page and its entries share memory: %s", short(two))
		}
		var found []api.Entry
		for _, x := range l {
			y, _, _ := Find(b, x.Key)
			found = append(found, y)
		}
		spoil(b, 85)
		if !slices.Equal(two, l) {
			t.Errorf("the entries %s became %s with their page", short(l), short(two))
		}
		for i, x := range l {
			if y, _, _ := modelFind(want, x.Key); found[i] != y {
				t.Errorf("what was found by %.20q became %s with its page", x.Key, short(found[i:i+1]))
			}
		}
		wantMake(t, l, want, api.OK)
		wantRead(t, want, l, api.OK)
	}
}

func TestThereAndBack(t *testing.T) {
	r := rand.New(rand.NewSource(11))
	seen := map[string]int{}
	for i := range 6000 {
		l := drawList(r, []int{1, 3, 8, 20}[i%4])
		b, e := modelMake(l)
		if e != api.OK {
			seen["cap"]++
			wantMake(t, l, nil, e)
			continue
		}
		wantPage(t, l, b)
		for k, x := range l {
			switch {
			case x.Gone:
				seen["gone"]++
			case x.Value == "":
				seen["empty"]++
			}
			if k > 0 && l[k-1].Key == x.Key {
				seen["same key"]++
			} else if k > 0 && len(x.Key) > len(l[k-1].Key) && x.Key[:len(l[k-1].Key)] == l[k-1].Key {
				seen["begins"]++
			}
		}
	}
	for _, what := range []string{"gone", "empty", "same key", "begins"} {
		if seen[what] < 1000 {
			t.Errorf("%s: only %d times", what, seen[what])
		}
	}
}

// wantAsModel asks for what the model tells of any bytes; and what is a page must be just what Make makes of what it tells.
func wantAsModel(t *testing.T, b []byte) bool {
	t.Helper()
	l, e := modelRead(b)
	wantRead(t, b, l, e)
	if e != api.OK {
		return false
	}
	wantMake(t, l, b, api.OK)
	return true
}

// All bodies of few bytes, with their sums.
func TestNothingIsAPageInTwoWays(t *testing.T) {
	for _, c := range []struct {
		bytes string
		most  int
		pages int
	}{{"\x00\x01\x02", 11, 100}, {"\x00\x01a\x80", 8, 20}, {"\x00\x01\x02\x03\x7f\xff", 6, 4}} {
		pages := 0
		var all func(b []byte)
		all = func(b []byte) {
			if wantAsModel(t, sealed(b)) {
				pages++
			}
			if len(b) == c.most {
				return
			}
			for i := range len(c.bytes) {
				all(append(b, c.bytes[i]))
			}
		}
		all(nil)
		if pages < c.pages {
			t.Errorf("of the bytes %q there were only %d pages", c.bytes, pages)
		}
	}
}

// Pages in which something was turned, left out or put in, and that have a sum that fits.
func TestPagesThatWereTurned(t *testing.T) {
	r := rand.New(rand.NewSource(12))
	yes, no := 0, 0
	for range 30000 {
		b := modelBody(drawList(r, 5))
		for range 1 + r.Intn(2) {
			at := r.Intn(len(b) + 1)
			// Most of a long page are values: what tells lengths and numbers is nearer to its beginning.
			if r.Intn(2) == 0 {
				at = r.Intn(min(len(b), 30) + 1)
			}
			switch c := []byte{0, 1, 2, 3, 127, 128, 129, 255, byte(r.Intn(256))}[r.Intn(9)]; {
			case at == len(b) || r.Intn(4) == 0:
				b = slices.Insert(b, at, c)
			case r.Intn(3) == 0:
				b = slices.Delete(b, at, at+1)
			case r.Intn(2) == 0:
				b[at] += byte(r.Intn(3)) - 1
			default:
				b[at] = c
			}
		}
		if wantAsModel(t, sealed(b)) {
			yes++
		} else {
			no++
		}
	}
	if yes < 1000 || no < 1000 {
		t.Errorf("%d were pages, %d not", yes, no)
	}
}

func TestOneByteIsAnotherOne(t *testing.T) {
	for _, l := range some() {
		b := made(t, l)
		for i, was := range b {
			for c := range 256 {
				b[i] = byte(c)
				if l, e := Read(b); (e == api.OK) != (byte(c) == was) || e != api.OK && (e != api.ErrBad || len(l) != 0) {
					t.Fatalf("byte %d of %d as %d instead of %d: %s, %d", i, len(b), c, was, short(l), e)
				}
			}
			b[i] = was
		}
	}
	r := rand.New(rand.NewSource(13))
	b := made(t, sized(cap16))
	for range 300 {
		i, c := r.Intn(len(b)), byte(1+r.Intn(255))
		b[i] ^= c
		wantRead(t, b, nil, api.ErrBad)
		b[i] ^= c
	}
}

// No call panics, whatever the bytes are.
func TestAnyBytes(t *testing.T) {
	r := rand.New(rand.NewSource(14))
	for range 20000 {
		b := make([]byte, r.Intn(40))
		r.Read(b)
		for i := range b {
			if r.Intn(2) == 0 {
				b[i] = byte(r.Intn(4))
			}
		}
		wantAsModel(t, b)
		wantAsModel(t, sealed(b))
		for _, key := range []string{"", "a", "\x00", string(b)} {
			want, is, e := modelFind(sealed(b), key)
			wantFind(t, sealed(b), key, want, is, e)
		}
	}
}
