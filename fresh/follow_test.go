package fresh

import (
	"fmt"
	"math/rand"
	"slices"
	"testing"

	"docket/api"
)

func TestOnlyRead(t *testing.T) {
	some := []api.Entry{put("a", "", 1), put("A", "", 0), put("zzz", "", 3), put("key00001", "", 7), {}, put("a", "", -1)}
	for _, c := range lists() {
		whole := append(slices.Clone(c.l), put("spare", "room", 1), put("", "", -1))
		before := slices.Clone(whole)
		l := whole[:len(c.l)]
		Check(l)
		for _, x := range some {
			Put(l, x)
			Find(l, x.Key, x.Seq)
		}
		if len(l) > 0 {
			Put(l, l[len(l)-1])
			Find(l, l[0].Key, l[0].Seq)
		}
		if !slices.Equal(whole, before) {
			t.Errorf("%s, or what is behind them, became others", short(c.l))
		}
	}
}

// spoil writes over a list, its spare room too.
func spoil(l []api.Entry) {
	l = l[:cap(l)]
	for i := range l {
		l[i] = put("other", "entry", 1)
	}
}

func TestListsAreNewMemory(t *testing.T) {
	for _, l := range [][]api.Entry{nil, list(put("b", "x", 2)), list(put("b", "x", 2), put("b", "", 1), taken("d", 0)), numbered(100)} {
		for _, x := range []api.Entry{put("a", "", 1), put("c", "", 1), put("z", "", 1)} {
			want, _ := modelPut(l, x)
			// With spare room behind, which an answer could be written into.
			arg := append(slices.Clone(l), make([]api.Entry, 10)...)[:len(l)]
			one, e := Put(arg, x)
			two, f := Put(arg, x)
			if e != api.OK || f != api.OK {
				t.Fatal(e, f)
			}
			spoil(one)
			if !slices.Equal(arg, l) || !slices.Equal(two, want) {
				t.Errorf("what Put answered shares memory with %s or %s", short(arg), short(two))
			}
			spoil(arg)
			if !slices.Equal(two, want) {
				t.Errorf("what Put answered became %s with its argument", short(two))
			}
		}
	}
}

func TestWhatRowsTellIsNewMemory(t *testing.T) {
	l := numbered(100)
	for n := range len(l) + 1 {
		r := rowOf(t, l[:n])
		one, _ := r.All()
		two, _ := r.All()
		spoil(one)
		if !slices.Equal(two, l[:n]) {
			t.Errorf("two answers share memory: %s", short(two))
		}
		wantAll(t, r, l[:n])
		spoil(two)
		wantAll(t, r, l[:n])
		for _, x := range l[:n] {
			wantRowFind(t, r, x.Key, x.Seq, x, true, api.OK)
		}
	}
}

func TestAllStaysBehindALaterPut(t *testing.T) {
	r := rand.New(rand.NewSource(2))
	for range 20 {
		row := New()
		var told, want [][]api.Entry
		var l []api.Entry
		for _, x := range drawEntries(r, 60, drawEntry) {
			more, e := modelPut(l, x)
			if got := row.Put(x); got != e {
				t.Fatalf("Put(%s) = %d, want %d", short(list(x)), got, e)
			}
			if e == api.OK {
				l = more
			}
			all, _ := row.All()
			told, want = append(told, all), append(want, l)
		}
		for i := range told {
			if !slices.Equal(told[i], want[i]) {
				t.Errorf("what All answered behind %d puts became %s", i+1, short(told[i]))
			}
		}
	}
}

// An entry that was put is kept as it was, whatever becomes of where it came from.
func TestPutKeepsTheEntry(t *testing.T) {
	l := numbered(50)
	from := slices.Clone(l)
	r := New()
	for i := range from {
		x := &from[i]
		if e := r.Put(*x); e != api.OK {
			t.Fatal(e)
		}
		*x = put("other", "entry", i)
	}
	wantAll(t, r, l)
}

func TestRowsAreApart(t *testing.T) {
	one, two := New(), New()
	l := numbered(101)
	var even, odd []api.Entry
	for i, x := range l {
		if i%2 == 0 {
			one.Put(x)
			even = append(even, x)
		} else {
			two.Put(x)
			odd = append(odd, x)
		}
	}
	wantAll(t, one, even)
	wantAll(t, two, odd)
	wantAll(t, New(), nil)
}

// Entries that may be and that may not, one behind the other: at each a row, and a list, tell the model's error, and have just what was put without one.
func TestRowHasWhatWasPut(t *testing.T) {
	r := rand.New(rand.NewSource(3))
	seen := map[api.Errno]int{}
	for i := range 300 {
		row := New()
		var l []api.Entry
		for _, x := range drawEntries(r, []int{3, 10, 40, 90}[i%4], drawAny) {
			want, e := modelPut(l, x)
			seen[e]++
			wantListPut(t, l, x, want, e)
			if got := row.Put(x); got != e {
				t.Fatalf("Put(%s) into %s = %d, want %d", short(list(x)), short(l), got, e)
			}
			if e == api.OK {
				l = want
			}
			wantAll(t, row, l)
		}
	}
	for _, e := range []api.Errno{api.OK, api.ErrKey, api.ErrText, api.ErrArg, api.ErrBad, api.ErrOrder} {
		if seen[e] < 200 {
			t.Errorf("error %d: only %d times", e, seen[e])
		}
	}
}

func TestAnyOrderOfFew(t *testing.T) {
	l := list(put("a", "x", 2), taken("a", 1), put("a", "", 0), put("ab", "", 5), taken("b", 7), put("b", "y", 3))
	orders := 0
	var all func(done, rest []api.Entry)
	all = func(done, rest []api.Entry) {
		if len(rest) == 0 {
			orders++
			wantSame(t, done, l)
			return
		}
		for i, x := range rest {
			all(append(slices.Clone(done), x), slices.Delete(slices.Clone(rest), i, i+1))
		}
	}
	all(nil, l)
	if orders != 720 {
		t.Errorf("%d orders", orders)
	}
}

// wantSame puts entries in the order in which they stand, into a row and into a list, and asks both for what they then must be.
func wantSame(t *testing.T, done, want []api.Entry) {
	t.Helper()
	wantAll(t, rowOf(t, done), want)
	var l []api.Entry
	for _, x := range done {
		var e api.Errno
		if l, e = Put(l, x); e != api.OK {
			t.Fatalf("Put(%s): error %d", short(list(x)), e)
		}
	}
	if !slices.Equal(l, want) {
		t.Errorf("the list is %s, want %s", short(l), short(want))
	}
}

func TestManyOrdersOfMany(t *testing.T) {
	r := rand.New(rand.NewSource(4))
	for i := range 100 {
		l := drawList(r, []int{2, 20, 100, 250}[i%4])
		back := slices.Clone(l)
		slices.Reverse(back)
		for _, done := range [][]api.Entry{l, back, ends(l), shuffled(r, l), shuffled(r, l)} {
			wantSame(t, done, l)
		}
	}
	l := numbered(api.MaxEntries)
	for _, done := range [][]api.Entry{ends(l), shuffled(r, l)} {
		wantAll(t, rowOf(t, done), l)
	}
}

// ends are entries of which the first, the last, the second, the last but one come, and so on.
func ends(l []api.Entry) []api.Entry {
	var out []api.Entry
	for i := range l {
		if i%2 == 0 {
			out = append(out, l[i/2])
		} else {
			out = append(out, l[len(l)-1-i/2])
		}
	}
	return out
}

// All rows of some of twelve entries, asked for all keys at all numbers near them.
func TestFindOfAllSmallRows(t *testing.T) {
	var l []api.Entry
	for _, key := range []string{"a", "a\x00", "b"} {
		for _, seq := range []int{last, 3, 1, 0} {
			l = append(l, put(key, fmt.Sprint(key, seq), seq))
		}
	}
	wantCheck(t, l, api.OK)
	for set := range 1 << len(l) {
		// One broken row tells enough.
		if t.Failed() {
			return
		}
		var some []api.Entry
		for i, x := range l {
			if set>>i&1 == 1 {
				some = append(some, x)
			}
		}
		back := slices.Clone(some)
		slices.Reverse(back)
		row := rowOf(t, back)
		for _, key := range []string{"A", "a", "a\x00", "aa", "b", "c"} {
			for _, seq := range []int{0, 1, 2, 3, 4, last - 1, last} {
				want, is, e := modelFind(some, key, seq)
				wantListFind(t, some, key, seq, want, is, e)
				wantRowFind(t, row, key, seq, want, is, e)
			}
		}
	}
}

func TestFindIsTheNewestAtANumber(t *testing.T) {
	r := rand.New(rand.NewSource(5))
	there, not := 0, 0
	for i := range 400 {
		l := append(drawList(r, []int{1, 5, 30, 150}[i%4]), put("\xff\xff\xff\xff\xff", "", 9))
		l = slices.CompactFunc(sorted(l), func(a, b api.Entry) bool { return modelOrder(a, b) == 0 })
		row := rowOf(t, shuffled(r, l))
		for range 30 {
			key, seq := drawKey(r), drawSeq(r)
			if x := l[r.Intn(len(l))]; r.Intn(4) > 0 {
				key = x.Key
				if n := x.Seq + r.Intn(3) - 1; r.Intn(2) == 0 {
					seq = n
				}
			}
			want, is, e := modelFind(l, key, seq)
			wantListFind(t, l, key, seq, want, is, e)
			wantRowFind(t, row, key, seq, want, is, e)
			if is {
				there++
			} else {
				not++
			}
		}
	}
	if there < 1000 || not < 1000 {
		t.Errorf("%d were there, %d not", there, not)
	}
}

// Numbers that rise from put to put, as they do behind a house: what was put last of a key is found at once, and what counted at a number stays what is found at it.
func TestWhatIsPutLastIsFound(t *testing.T) {
	r := rand.New(rand.NewSource(6))
	row := New()
	var l []api.Entry
	keys := []string{"\x00", "a", "aa", "ab", "b", "k", "\xff"}
	for seq := range 600 {
		x := put(keys[r.Intn(len(keys))], fmt.Sprint("of ", seq), seq)
		if r.Intn(4) == 0 {
			x = taken(x.Key, seq)
		}
		var e api.Errno
		if l, e = Put(l, x); e != api.OK || row.Put(x) != api.OK {
			t.Fatalf("Put(%s): error %d", short(list(x)), e)
		}
		for _, at := range []int{seq, seq + 1, last} {
			wantListFind(t, l, x.Key, at, x, true, api.OK)
			wantRowFind(t, row, x.Key, at, x, true, api.OK)
		}
		key, at := keys[r.Intn(len(keys))], r.Intn(seq+1)
		want, is, e := modelFind(l, key, at)
		wantRowFind(t, row, key, at, want, is, e)
	}
	wantAll(t, row, l)
}

// At each height the entries that reach it are linked, rising, and each has as many links as it is high.
func TestHeights(t *testing.T) {
	r := rand.New(rand.NewSource(7))
	for _, n := range []int{0, 1, 2, 3, 7, 8, 100, api.MaxEntries} {
		l := numbered(n)
		row := rowOf(t, shuffled(r, l))
		for h := range maxHeight {
			many := 0
			ahead := api.Entry{}
			for at := row.links.head.next[h]; at != nil; at = at.next[h] {
				many++
				if len(at.next) <= h || len(at.next) > maxHeight || modelOrder(ahead, at.entry) >= 0 {
					t.Fatalf("%d entries, height %d: the one with %d links does not stand there", n, h, len(at.next))
				}
				ahead = at.entry
			}
			// Every entry, every second one, every fourth one.
			if want := n >> h; many != want {
				t.Errorf("%d entries: %d are linked at height %d, want %d", n, many, h, want)
			}
		}
	}
}
