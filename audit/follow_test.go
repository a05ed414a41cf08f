package audit

import (
	"math/rand"
	"slices"
	"testing"

	"docket/api"
)

const draws = 1500

// withRoom is a copy of l with spare room behind it, in which records stand.
func withRoom(l []api.Record) []api.Record {
	spare := api.Record{Seq: -9, User: "spare"}
	return append(slices.Clone(l), spare, spare, spare)[:len(l)]
}

// whole is a copy of all records of a list, of its spare room too.
func whole(l []api.Record) []api.Record { return slices.Clone(l[:cap(l)]) }

// spoil writes over all of a list, its spare room too.
func spoil(l []api.Record) {
	l = l[:cap(l)]
	for i := range l {
		l[i] = api.Record{Seq: -1, Deed: "spoilt"}
	}
}

func TestOnlyRead(t *testing.T) {
	for n := range 6 {
		turned := plain(n)
		if n > 0 {
			turned[n/2].User = "eve"
		}
		for _, l := range [][]api.Record{withRoom(plain(n)), withRoom(turned)} {
			was := whole(l)
			Check(l)
			Head(l)
			Range(l, 0, n)
			Range(l, 1, 9)
			Range(l, -1, 9)
			Next(l, api.MaxClock, "ann", "raise", 200)
			Next(l, 0, "ann", "raise", 200)
			Next(l, -1, "ann", "raise", 200)
			if !slices.Equal(whole(l), was) {
				t.Fatalf("a list of %d records was written on", n)
			}
		}
	}
}

// What was answered stays as it is whatever becomes of what was handed in, and of what else was answered.
func TestNewMemory(t *testing.T) {
	for n := range 6 {
		l := withRoom(plain(n))
		longer, _ := Next(l, 99, "ann", "raise", 200)
		other, _ := Next(l, 99, "ann", "raise", 200)
		some, _ := Range(l, 0, n)
		tail, _ := Range(l, n/2, n)
		spoil(l)
		if want := modelAdded(plain(n), 99, "ann", "raise", 200); !slices.Equal(longer, want) || !slices.Equal(other, want) {
			t.Errorf("what Next answered changed with its list of %d", n)
		}
		if !slices.Equal(some, plain(n)) || !slices.Equal(tail, plain(n)[n/2:]) {
			t.Errorf("what Range answered changed with its list of %d", n)
		}
		spoil(longer)
		spoil(some)
		if !slices.Equal(other, modelAdded(plain(n), 99, "ann", "raise", 200)) || !slices.Equal(tail, plain(n)[n/2:]) {
			t.Errorf("two answers share records, at %d", n)
		}
	}
}

// Two lists of one more record, made behind one list, do not write on one another.
func TestTwoBehindOne(t *testing.T) {
	var l []api.Record
	for i := range 40 {
		one, _ := Next(l, i, "ann", "raise", 200)
		two, _ := Next(l, i, "bob", "claim", 403)
		if !slices.Equal(one, modelAdded(l, i, "ann", "raise", 200)) || !slices.Equal(two, modelAdded(l, i, "bob", "claim", 403)) {
			t.Fatalf("two behind %d records are mixed up", i)
		}
		l = one
	}
}

// What a call answers hangs on its arguments alone, not on the calls ahead of it.
func TestAgain(t *testing.T) {
	l := plain(3)
	for range 3 {
		wantCheck(t, l, -1, api.OK)
		wantNext(t, l, 11, "ann", "raise", 200, modelAdded(l, 11, "ann", "raise", 200), api.OK)
		wantNext(t, l, 10, "ann", "raise", 200, nil, api.ErrChain)
		wantCheck(t, l[1:], 0, api.OK)
		wantHead(t, nil, zeros, api.OK)
		wantText(t, l[1], zeros, modelBytes(l[1], zeros), api.OK)
	}
}

// A chain that is well is well with one more by Next, and what Next was given stands there.
func TestChainsGrowWell(t *testing.T) {
	r := rand.New(rand.NewSource(151))
	for range draws / 10 {
		var l []api.Record
		for range r.Intn(30) {
			at, user, deed, outcome := r.Intn(3), drawBytes(r, drawSize(r, api.MaxName)), drawBytes(r, drawSize(r, api.MaxText)), drawOutcome(r)
			if len(l) > 0 {
				at = min(at+l[len(l)-1].At, api.MaxClock)
			}
			longer, e := Next(l, at, user, deed, outcome)
			if e != api.OK || len(longer) != len(l)+1 || !slices.Equal(longer[:len(l)], l) {
				t.Fatalf("Next(%s, %d, ..) = %s, %d", ends(l), at, ends(longer), e)
			}
			x := longer[len(l)]
			if x.Seq != len(l) || x.At != at || x.User != user || x.Deed != deed || x.Outcome != outcome {
				t.Fatalf("what Next was given stands there as %s", shown(x))
			}
			wantCheck(t, longer, -1, api.OK)
			wantHead(t, longer, x.Hash, api.OK)
			wantHead(t, l, headOf(longer), api.OK)
			l = longer
		}
	}
}

// headOf is the digest that the last record of a chain stands behind, found by its bytes.
func headOf(l []api.Record) string {
	n := len(l) - 1
	if n > 0 && modelHash(l[n], l[n-1].Hash) == l[n].Hash {
		return l[n-1].Hash
	}
	return zeros
}

// A record that is turned is told, at it or at the one behind, unless it may not be any more.
func TestTurnedRecordsAreTold(t *testing.T) {
	r := rand.New(rand.NewSource(152))
	told, refused := 0, 0
	for range draws {
		l := drawChain(r, 1+r.Intn(12))
		at := r.Intn(len(l))
		l[at] = turnField(r, l[at])
		want, e := modelCheck(l)
		wantCheck(t, l, want, e)
		got, e := Check(l)
		switch {
		case e == api.ErrBad:
			refused++
		case e != api.OK || got != at && got != at+1:
			t.Errorf("turned at %d, Check(%s) = %d, %d", at, ends(l), got, e)
		default:
			told++
			wantNext(t, l, api.MaxClock, "ann", "raise", 200, nil, api.ErrChain)
		}
	}
	if told < draws/2 || refused < 50 {
		t.Errorf("%d turned records were told, %d refused: too few to tell", told, refused)
	}
}

// A chain without one of its records, but for the last one, does not fit from there on; nor does one with two changed about, or with one told twice.
func TestRecordsLeftOutOrMoved(t *testing.T) {
	r := rand.New(rand.NewSource(153))
	for range draws {
		l := drawChain(r, 2+r.Intn(12))
		at := r.Intn(len(l) - 1)
		wantCheck(t, slices.Delete(slices.Clone(l), at, at+1), at, api.OK)
		wantCheck(t, l[:len(l)-1], -1, api.OK)
		moved := slices.Clone(l)
		to := at + 1 + r.Intn(len(l)-at-1)
		moved[at], moved[to] = moved[to], moved[at]
		wantCheck(t, moved, at, api.OK)
		wantCheck(t, slices.Insert(slices.Clone(l), at+1, l[at]), at+1, api.OK)
	}
}

// All calls beside the model, over chains that are well, turned in some records or cut.
func TestDrawnBesideModel(t *testing.T) {
	r := rand.New(rand.NewSource(154))
	count := map[api.Errno]int{}
	for range draws {
		l := drawChain(r, r.Intn(10))
		for range r.Intn(3) / 2 * r.Intn(3) {
			if len(l) > 0 {
				at := r.Intn(len(l))
				if l[at] = turnField(r, l[at]); r.Intn(2) == 0 {
					again(l, at)
				}
			}
		}
		if r.Intn(8) == 0 {
			l = l[r.Intn(len(l)+1):]
		}
		number, e := modelCheck(l)
		wantCheck(t, l, number, e)
		head, e := modelHead(l)
		wantHead(t, l, head, e)
		from, many := r.Intn(14)-2, r.Intn(14)-2
		some, e := modelRange(l, from, many)
		wantRange(t, l, from, many, some, e)
		x := drawNext(r, l)
		longer, e := modelNext(l, x.At, x.User, x.Deed, x.Outcome)
		wantNext(t, l, x.At, x.User, x.Deed, x.Outcome, longer, e)
		count[e]++
		x.Hash = []string{zeros, head, chars(63+r.Intn(3), 'a')}[r.Intn(3)]
		before := []string{zeros, head, chars(63+r.Intn(3), 'b')}[r.Intn(3)]
		text, e := modelText(x, before)
		wantText(t, x, before, text, e)
	}
	for _, e := range []api.Errno{api.OK, api.ErrArg, api.ErrText, api.ErrBad, api.ErrChain} {
		if count[e] < 30 {
			t.Errorf("%d of %d drawn lists come to %d: too few to tell", count[e], draws, e)
		}
	}
}

// drawNext is what Next may be given behind l, or, now and then, may not.
func drawNext(r *rand.Rand, l []api.Record) api.Record {
	x := api.Record{User: drawBytes(r, drawSize(r, api.MaxName)), Deed: drawBytes(r, drawSize(r, api.MaxText)), Outcome: drawOutcome(r)}
	if len(l) > 0 {
		x.At = l[len(l)-1].At + []int{0, 1, 1, 2, -1}[r.Intn(5)]
	}
	switch r.Intn(12) {
	case 0, 1, 2:
		x = turnField(r, x)
	case 3:
		x.User = chars(api.MaxName+1, 'u')
	case 4:
		x.Deed = chars(api.MaxText+1, 'd')
	}
	return x
}
