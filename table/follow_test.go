package table

import (
	"bytes"
	"math/rand"
	"slices"
	"testing"

	"docket/api"
)

func TestOnlyRead(t *testing.T) {
	lists := append(some(), nil, sized(most+1), numbered(api.MaxEntries+1, 0), list(put("b", "", 0), put("a", "", 0)), list(put("", "", -1)))
	for _, l := range lists {
		whole := append(slices.Clone(l), put("spare", "room", 1), put("", "", -1))
		before := slices.Clone(whole)
		Make(whole[:len(l)])
		if !slices.Equal(whole, before) {
			t.Errorf("%s, or what is behind them, became others", short(l))
		}
		b := draftOf(modelParts(l)...).bytes()
		for _, broken := range []byte{0, 1} {
			spare := append(slices.Clone(b), 170, 170, 170, 170, 170, 170, 170, 170)
			spare[len(b)-1] ^= broken
			was := slices.Clone(spare)
			askAll(spare[:len(b)])
			if !bytes.Equal(spare, was) {
				t.Errorf("the table of %s, or what is behind it, became another one", short(l))
			}
		}
	}
}

// askAll calls all that read a table.
func askAll(b []byte) {
	Check(b)
	All(b)
	Ends(b)
	Pages(b)
	Find(b, "a", 1)
	Find(b, "key00005", last)
	Find(b, "", -1)
	Range(b, "", "")
	Range(b, "key00003", "key00050")
	Range(b, chars(api.MaxKey+1, 'k'), "")
}

// spoil writes over a list, its spare room too.
func spoil[T any](l []T, v T) {
	l = l[:cap(l)]
	for i := range l {
		l[i] = v
	}
}

func TestNewMemory(t *testing.T) {
	other := put("other", "entry", 1)
	for _, l := range some() {
		want := made(t, l)
		arg := slices.Clone(l)
		one, _ := Make(arg)
		two, _ := Make(arg)
		spoil(one, 85)
		spoil(arg, other)
		if !bytes.Equal(two, want) {
			t.Errorf("the table of %s became another one", short(l))
		}
		b := slices.Clone(want)
		a, _ := All(b)
		c, _ := All(b)
		d, _ := Range(b, "", "")
		f, _ := Range(b, "", "")
		spoil(a, other)
		spoil(d, other)
		if !bytes.Equal(b, want) || !slices.Equal(c, l) || !slices.Equal(f, l) {
			t.Errorf("a table and its entries share memory: %s, %s", short(c), short(f))
		}
		first, end, _ := Ends(b)
		x, _, _ := Find(b, l[0].Key, l[0].Seq)
		spoil(b, 85)
		if !slices.Equal(c, l) || !slices.Equal(f, l) || first != l[0].Key || end != l[len(l)-1].Key || x != l[0] {
			t.Errorf("what was told of %s became something else with the table", short(l))
		}
		wantTable(t, l, want)
	}
}

// drawn are lists of entries, short ones and long ones, of one page and of several.
func drawn(r *rand.Rand, i int) []api.Entry {
	return drawList(r, []int{1, 3, 8, 20, 60}[i%5])
}

func TestThereAndBack(t *testing.T) {
	r := rand.New(rand.NewSource(21))
	seen := map[string]int{}
	for i := range 1500 {
		l := drawn(r, i)
		b := made(t, l)
		wantTable(t, l, b)
		parts := modelParts(l)
		if len(parts) == 1 {
			seen["one page"]++
		} else {
			seen["several pages"]++
		}
		for k := range len(parts) - 1 {
			if a, b := parts[k], parts[k+1]; a[len(a)-1].Key == b[0].Key {
				seen["key over the end of a page"]++
			}
		}
		for _, x := range l {
			if x.Gone {
				seen["gone"]++
			}
		}
	}
	for _, what := range []string{"one page", "several pages", "key over the end of a page", "gone"} {
		if seen[what] < 300 {
			t.Errorf("%s: only %d times", what, seen[what])
		}
	}
}

func TestFindIsWhatTheEntriesTell(t *testing.T) {
	r := rand.New(rand.NewSource(22))
	there, not := 0, 0
	for i := range 300 {
		l := drawn(r, i)
		b := made(t, l)
		for range 30 {
			key, seq := drawKey(r), drawSeq(r)
			if x := l[r.Intn(len(l))]; r.Intn(4) > 0 {
				key = x.Key
				if n := x.Seq + r.Intn(3) - 1; r.Intn(2) == 0 && n >= 0 && n <= last {
					seq = n
				}
			}
			want, is := modelFind(l, key, seq)
			wantFind(t, b, key, seq, want, is, api.OK)
			if is {
				there++
			} else {
				not++
			}
		}
	}
	if there < 1000 || not < 1000 {
		t.Errorf("%d were there, %d not", there, not)
	}
}

// drawEnd is a text for an end of a range: none, a key of the entries, or another one.
func drawEnd(r *rand.Rand, l []api.Entry) string {
	switch r.Intn(6) {
	case 0:
		return ""
	case 1:
		return drawKey(r)
	case 2:
		key := l[r.Intn(len(l))].Key
		return key[:r.Intn(len(key)+1)]
	}
	return l[r.Intn(len(l))].Key
}

func TestRangeOfTwoPieces(t *testing.T) {
	r := rand.New(rand.NewSource(23))
	both := 0
	for i := range 300 {
		l := drawn(r, i)
		b := made(t, l)
		for range 20 {
			from, to := drawEnd(r, l), drawEnd(r, l)
			wantRange(t, b, from, to, modelRange(l, from, to), api.OK)
			mid := drawEnd(r, l)
			if mid == "" || mid < from || to != "" && mid > to {
				continue
			}
			one, e := Range(b, from, mid)
			two, f := Range(b, mid, to)
			if e != api.OK || f != api.OK {
				t.Fatal(e, f)
			}
			wantRange(t, b, from, to, slices.Concat(one, two), api.OK)
			if len(one) > 0 && len(two) > 0 {
				both++
			}
		}
	}
	if both < 500 {
		t.Errorf("only %d times both pieces had entries", both)
	}
}

// wantAsModel asks for what the model tells of any bytes; and what is a table must be just what Make makes of what it tells.
func wantAsModel(t *testing.T, b []byte) bool {
	t.Helper()
	l, e := modelAll(b)
	wantCheck(t, b, e)
	wantAll(t, b, l, e)
	if e != api.OK {
		return false
	}
	wantMake(t, l, b, api.OK)
	return true
}

// turned is b with a byte turned, put in or left out.
func turned(r *rand.Rand, b []byte) []byte {
	b = slices.Clone(b)
	at := r.Intn(len(b) + 1)
	switch c := []byte{0, 1, 2, 127, 128, 255, byte(r.Intn(256))}[r.Intn(7)]; {
	case at == len(b) || r.Intn(4) == 0:
		return slices.Insert(b, at, c)
	case r.Intn(3) == 0:
		return slices.Delete(b, at, at+1)
	case r.Intn(2) == 0:
		b[at] += byte(r.Intn(3)) - 1
	default:
		b[at] = c
	}
	return b
}

// Tables of which one part was turned, and that have lengths and sums that fit again. What may come out of it is another table, the same, or none.
func TestTablesThatWereTurned(t *testing.T) {
	r := rand.New(rand.NewSource(24))
	yes, no := 0, 0
	for i := range 12000 {
		l := drawn(r, i%4)
		parts := modelParts(l)
		d := draftOf(parts...)
		inner, index, sieve := slices.Concat(d.pages...), d.index(), d.sieve
		switch r.Intn(5) {
		case 0:
			inner = turned(r, inner)
		case 1:
			index = turned(r, index)
		case 2:
			sieve = turned(r, sieve)
		case 3:
			// A page with a sum that fits, whatever its entries are.
			k := r.Intn(len(d.pages))
			p := d.pages[k]
			d.pages[k] = sealed(turned(r, p[:len(p)-4]))
			d.spots[k].size = len(d.pages[k])
			inner, index = slices.Concat(d.pages...), d.index()
		default:
			// Another entry in its place, and what hangs on it made anew, or not.
			l[r.Intn(len(l))] = drawEntry(r)
			d = draftOf(modelParts(l)...)
			inner = slices.Concat(d.pages...)
			if r.Intn(3) > 0 {
				index, sieve = d.index(), d.sieve
			}
		}
		if wantAsModel(t, whole(inner, index, sieve)) {
			yes++
		} else {
			no++
		}
	}
	if yes < 1000 || no < 1000 {
		t.Errorf("%d were tables, %d not", yes, no)
	}
}

// Entries that are parted at random, in pages that each may be: only one way of them is the table.
func TestNothingIsATableInTwoWays(t *testing.T) {
	r := rand.New(rand.NewSource(25))
	yes, no := 0, 0
	for i := range 3000 {
		l := drawn(r, i%4)
		var parts [][]api.Entry
		for rest := l; len(rest) > 0; {
			n := 1 + r.Intn(len(rest))
			// Often where it must be, so that only the rest of them may be elsewhere.
			if r.Intn(3) > 0 {
				n = len(modelParts(rest)[0])
			}
			parts = append(parts, rest[:n])
			rest = rest[n:]
		}
		b := draftOf(parts...).bytes()
		right := made(t, l)
		if wantAsModel(t, b) != bytes.Equal(b, right) {
			t.Errorf("%s are a table in two ways", short(l))
		}
		if bytes.Equal(b, right) {
			yes++
		} else {
			no++
		}
	}
	if yes < 300 || no < 300 {
		t.Errorf("%d as they must be, %d not", yes, no)
	}
}

func TestOneByteIsAnotherOne(t *testing.T) {
	for _, l := range some()[:5] {
		b := made(t, l)
		for i, was := range b {
			for c := range 256 {
				b[i] = byte(c)
				if e := Check(b); (e == api.OK) != (byte(c) == was) || e != api.OK && e != api.ErrTable {
					t.Fatalf("byte %d of %d as %d instead of %d: %d", i, len(b), c, was, e)
				}
			}
			b[i] = was
		}
	}
	r := rand.New(rand.NewSource(26))
	for i := range 60 {
		b := made(t, drawn(r, i))
		// Each byte of the index, the sieve and the end; of the pages some.
		for at := range b {
			if len(b)-at > 300 && r.Intn(40) > 0 {
				continue
			}
			c := byte(1 + r.Intn(255))
			b[at] ^= c
			wantCheck(t, b, api.ErrTable)
			b[at] ^= c
		}
		wantCheck(t, b, api.OK)
	}
}

// No call panics, whatever the bytes are.
func TestAnyBytes(t *testing.T) {
	r := rand.New(rand.NewSource(27))
	for range 20000 {
		b := make([]byte, r.Intn(60))
		r.Read(b)
		for i := range b {
			if r.Intn(2) == 0 {
				b[i] = byte(r.Intn(4))
			}
		}
		wantAsModel(t, b)
		wantAsModel(t, sealed(b))
		n := len(b)
		lengths := []int{r.Intn(n + 2), r.Intn(n + 2), r.Intn(n + 2)}
		askAll(ended(b, lengths...))
		wantAsModel(t, ended(b, lengths...))
	}
}
