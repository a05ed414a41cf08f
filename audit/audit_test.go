package audit

import (
	"fmt"
	"math"
	"slices"
	"strings"
	"testing"

	"docket/api"
)

// shown is a record that a message can hold.
func shown(r api.Record) string {
	if len(r.Deed) > 40 {
		r.Deed = fmt.Sprintf("%s.. of %d bytes", r.Deed[:40], len(r.Deed))
	}
	return fmt.Sprintf("%+q", fmt.Sprint(r))
}

// ends are the first and the last of records.
func ends(l []api.Record) string {
	if len(l) == 0 {
		return "none"
	}
	return fmt.Sprintf("%d from %s to %s", len(l), shown(l[0]), shown(l[len(l)-1]))
}

func wantText(t *testing.T, r api.Record, before, want string, e api.Errno) {
	t.Helper()
	if got, ge := Text(r, before); got != want || ge != e {
		t.Errorf("Text(%s, %q) = %.200q, %d, want %.200q, %d", shown(r), before, got, ge, want, e)
	}
}

func wantCheck(t *testing.T, l []api.Record, want int, e api.Errno) {
	t.Helper()
	if got, ge := Check(l); got != want || ge != e {
		t.Errorf("Check(%s) = %d, %d, want %d, %d", ends(l), got, ge, want, e)
	}
}

func wantNext(t *testing.T, l []api.Record, at int, user, deed string, outcome int, want []api.Record, e api.Errno) {
	t.Helper()
	got, ge := Next(l, at, user, deed, outcome)
	if !slices.Equal(got, want) || ge != e {
		t.Errorf("Next(%s, %d, %q, %.80q, %d) = %s, %d, want %s, %d", ends(l), at, user, deed, outcome, ends(got), ge, ends(want), e)
	}
	if ge != api.OK && got != nil {
		t.Errorf("Next(%s, ..) answers records beside its error", ends(l))
	}
}

func wantRange(t *testing.T, l []api.Record, from, count int, want []api.Record, e api.Errno) {
	t.Helper()
	if got, ge := Range(l, from, count); !slices.Equal(got, want) || ge != e {
		t.Errorf("Range(%s, %d, %d) = %s, %d, want %s, %d", ends(l), from, count, ends(got), ge, ends(want), e)
	}
}

func wantHead(t *testing.T, l []api.Record, want string, e api.Errno) {
	t.Helper()
	if got, ge := Head(l); got != want || ge != e {
		t.Errorf("Head(%s) = %q, %d, want %q, %d", ends(l), got, ge, want, e)
	}
}

// wantAll asks all calls of records that may not be: each tells the same, ahead of all that is wrong with its other arguments.
func wantAll(t *testing.T, l []api.Record, e api.Errno) {
	t.Helper()
	wantCheck(t, l, 0, e)
	wantHead(t, l, "", e)
	for _, n := range []int{-1, 0, 1, math.MaxInt} {
		wantRange(t, l, n, 1, nil, e)
		wantRange(t, l, 0, n, nil, e)
	}
	wantNext(t, l, api.MaxClock, "ann", "raise", 200, nil, e)
	wantNext(t, l, -1, "ann", "raise", 200, nil, e)
	wantNext(t, l, api.MaxClock, chars(33, 'a'), "raise", 200, nil, e)
	wantNext(t, l, api.MaxClock, "ann", chars(16385, 'a'), 200, nil, e)
	wantNext(t, l, api.MaxClock, "ann", "raise", 99, nil, e)
	wantNext(t, l, -1, chars(33, 'a'), chars(16385, 'a'), 600, nil, e)
}

func TestExamples(t *testing.T) {
	for _, none := range [][]api.Record{nil, {}} {
		wantCheck(t, none, -1, api.OK)
		wantHead(t, none, strings.Repeat("0", 64), api.OK)
		first := api.Record{Seq: 0, At: 5, User: "ann", Deed: "create", Outcome: 200, Hash: "cd54c11e262fed686b14caf392ba76624c3ad902f9a81b013e93eebec8f5959d"}
		wantNext(t, none, 5, "ann", "create", 200, []api.Record{first}, api.OK)
		that := []api.Record{first}
		wantNext(t, that, 4, "ann", "raise", 200, nil, api.ErrChain)
		that[0].Deed = "raise"
		wantCheck(t, that, 0, api.OK)
	}
}

// These digests were told by another program.
func TestChainToldElsewhere(t *testing.T) {
	var l []api.Record
	for i, r := range []api.Record{
		{Seq: 0, At: 5, User: "ann", Deed: "create", Outcome: 200, Hash: "cd54c11e262fed686b14caf392ba76624c3ad902f9a81b013e93eebec8f5959d"},
		{Seq: 1, At: 5, User: "", Deed: "", Outcome: 100, Hash: "a95be50389ff1bba3093ab8dcbac0feb8f013efc7b06ff317c4bb2ad621fd741"},
		{Seq: 2, At: 300, User: "bob-7", Deed: "raise 12", Outcome: 403, Hash: "e2cbcc6b8d4f6da4d5edf402edd4708526b033494900080e262fc432177e2855"},
		{Seq: 3, At: 1 << 40, User: chars(32, 'u'), Deed: chars(16384, 'd'), Outcome: 599, Hash: "bf0e05e80a720ec0d17542087cd16ece2dbddc3f091bf6c1912db66b7ddcf680"},
	} {
		longer := append(slices.Clone(l), r)
		wantNext(t, l, r.At, r.User, r.Deed, r.Outcome, longer, api.OK)
		l = longer
		wantCheck(t, l, -1, api.OK)
		wantHead(t, l, r.Hash, api.OK)
		wantRange(t, l, i, 1, []api.Record{r}, api.OK)
	}
}

func TestTextByteByByte(t *testing.T) {
	r := api.Record{Seq: 258, At: 1<<40 - 1, User: "ann", Deed: "raise 7", Outcome: 403, Hash: chars(64, 'a')}
	before := "0123456789abcdef" + chars(48, 'f')
	want := "\x40" + before +
		"\x02\x01\x00\x00\x00\x00\x00\x00" +
		"\xff\xff\xff\xff\xff\x00\x00\x00" +
		"\x93\x01\x00\x00\x00\x00\x00\x00" +
		"\x03ann" + "\x07raise 7"
	wantText(t, r, before, want, api.OK)
	// Its own digest is none of a record's bytes, and what is ahead need not be a digest of anything.
	r.Hash = chars(64, '0')
	wantText(t, r, before, want, api.OK)
	none := api.Record{Outcome: 100, Hash: chars(64, '9')}
	wantText(t, none, zeros, "\x40"+zeros+chars(16, 0)+"\x64"+chars(7, 0)+"\x00\x00", api.OK)
	great := api.Record{Seq: math.MaxInt, At: 1 << 40, User: chars(32, 255), Deed: chars(16384, 0), Outcome: 599, Hash: zeros}
	wantText(t, great, zeros, "\x40"+zeros+chars(7, 255)+"\x7f"+chars(5, 0)+"\x01\x00\x00"+"\x57\x02"+chars(6, 0)+"\x20"+chars(32, 255)+"\x80\x80\x01"+chars(16384, 0), api.OK)
}

func TestTextByLengths(t *testing.T) {
	for n := range api.MaxName + 1 {
		r := api.Record{User: chars(n, 'u'), Outcome: 200, Hash: zeros}
		wantText(t, r, zeros, modelBytes(r, zeros), api.OK)
	}
	for _, n := range []int{0, 1, 127, 128, 129, 16383, 16384} {
		r := api.Record{Deed: chars(n, 'd'), Outcome: 200, Hash: zeros}
		wantText(t, r, zeros, modelBytes(r, zeros), api.OK)
	}
	for c := range 256 {
		r := api.Record{User: chars(2, byte(c)), Deed: chars(3, byte(c)), Outcome: 200, Hash: zeros}
		wantText(t, r, zeros, modelBytes(r, zeros), api.OK)
	}
}

// edges are records that may not be, each beside its neighbour that may: they turn one field alone of one that may be.
func edges() []struct {
	turn func(r *api.Record)
	may  bool
} {
	type edge = struct {
		turn func(r *api.Record)
		may  bool
	}
	l := []edge{
		{func(r *api.Record) { r.Seq = -1 }, false}, {func(r *api.Record) { r.Seq = 0 }, true},
		{func(r *api.Record) { r.Seq = math.MinInt }, false}, {func(r *api.Record) { r.Seq = math.MaxInt }, true},
		{func(r *api.Record) { r.At = -1 }, false}, {func(r *api.Record) { r.At = 0 }, true},
		{func(r *api.Record) { r.At = 1<<40 + 1 }, false}, {func(r *api.Record) { r.At = 1 << 40 }, true},
		{func(r *api.Record) { r.At = math.MinInt }, false}, {func(r *api.Record) { r.At = math.MaxInt }, false},
		{func(r *api.Record) { r.User = chars(33, 'a') }, false}, {func(r *api.Record) { r.User = chars(32, 'a') }, true},
		{func(r *api.Record) { r.User = "" }, true}, {func(r *api.Record) { r.User = "Not a name\xff\x00" }, true},
		{func(r *api.Record) { r.Deed = chars(16385, 'a') }, false}, {func(r *api.Record) { r.Deed = chars(16384, 'a') }, true},
		{func(r *api.Record) { r.Deed = "" }, true}, {func(r *api.Record) { r.Deed = "\xff\x00\n" }, true},
		{func(r *api.Record) { r.Outcome = 99 }, false}, {func(r *api.Record) { r.Outcome = 100 }, true},
		{func(r *api.Record) { r.Outcome = 600 }, false}, {func(r *api.Record) { r.Outcome = 599 }, true},
		{func(r *api.Record) { r.Outcome = 0 }, false}, {func(r *api.Record) { r.Outcome = -200 }, false},
	}
	for _, c := range digests() {
		l = append(l, edge{func(r *api.Record) { r.Hash = c.text }, c.is})
	}
	return l
}

// digest is a text, and whether it is 64 small sixteens.
type digest struct {
	text string
	is   bool
}

func digests() []digest {
	l := []digest{
		{chars(63, 'a'), false}, {chars(64, 'a'), true}, {chars(65, 'a'), false}, {chars(63, 'a') + "A", false}, {"A" + chars(63, 'a'), false}, {chars(63, 'a') + "g", false},
		{"", false}, {chars(62, 'a'), false}, {chars(66, 'a'), false}, {chars(128, 'a'), false}, {chars(64, 'A'), false}, {chars(64, 0), false},
		{zeros, true}, {chars(32, 'a') + chars(32, '9'), true}, {"0123456789abcdef" + chars(48, 'f'), true},
	}
	for c := range 256 {
		is := strings.IndexByte("0123456789abcdef", byte(c)) >= 0
		for _, at := range []int{0, 1, 31, 62, 63} {
			l = append(l, digest{chars(at, '7') + chars(1, byte(c)) + chars(63-at, '7'), is})
		}
	}
	return l
}

func TestRecordsThatMayNotBe(t *testing.T) {
	for i, c := range edges() {
		r := plain(3)[2]
		c.turn(&r)
		if modelMay(r) != c.may {
			t.Fatalf("the model is wrong at %d", i)
		}
		want, e := modelText(r, zeros)
		wantText(t, r, zeros, want, e)
		if c.may != (e == api.OK) {
			t.Errorf("%d: %d", i, e)
		}
		if !c.may {
			wantText(t, r, chars(63, '0'), "", api.ErrBad)
			wantText(t, r, chars(64, 'A'), "", api.ErrBad)
			wantText(t, r, "", "", api.ErrBad)
		}
	}
	wantText(t, api.Record{}, zeros, "", api.ErrBad)
	wantText(t, api.Record{Outcome: 200}, zeros, "", api.ErrBad)
}

// One that may not be is told wherever it stands, also where one that stands ahead of it does not fit.
func TestListsWithRecordsThatMayNotBe(t *testing.T) {
	for i, c := range edges() {
		// Of the many digests some are enough here.
		if i >= 40 && i%16 != 0 {
			continue
		}
		for _, at := range []int{0, 2, 4} {
			l := plain(5)
			c.turn(&l[at])
			if c.may {
				want, _ := modelCheck(l)
				wantCheck(t, l, want, api.OK)
				wantHead(t, l, l[4].Hash, api.OK)
				wantRange(t, l, 1, 3, l[1:4], api.OK)
				continue
			}
			wantAll(t, l, api.ErrBad)
			l[1].Deed = "other"
			wantAll(t, l, api.ErrBad)
		}
	}
}

func TestTextBehindWhat(t *testing.T) {
	r := plain(1)[0]
	for _, c := range digests() {
		if c.is {
			wantText(t, r, c.text, modelBytes(r, c.text), api.OK)
		} else {
			wantText(t, r, c.text, "", api.ErrText)
		}
	}
	for _, s := range []string{"x", chars(1<<20, '0'), chars(64, 'A'), chars(64, 'F'), chars(64, 'g'), chars(64, ' '), chars(64, 0), strings.Repeat("é", 32)} {
		wantText(t, r, s, "", api.ErrText)
	}
}

func TestListsThatAreTooLong(t *testing.T) {
	full := plain(api.MaxAudit)
	wantCheck(t, full, -1, api.OK)
	wantHead(t, full, full[api.MaxAudit-1].Hash, api.OK)
	wantRange(t, full, 0, math.MaxInt, full, api.OK)
	wantRange(t, full, api.MaxAudit-1, 2, full[api.MaxAudit-1:], api.OK)
	wantRange(t, full, api.MaxAudit, 1, nil, api.OK)
	over := plain(api.MaxAudit + 1)
	wantAll(t, over, api.ErrMany)
	over[0].Outcome = 99
	wantAll(t, over, api.ErrMany)
	wantAll(t, make([]api.Record, api.MaxAudit+1), api.ErrMany)
	wantAll(t, make([]api.Record, 2*api.MaxAudit), api.ErrMany)
	wantAll(t, make([]api.Record, api.MaxAudit), api.ErrBad)
	full[api.MaxAudit-1].Hash = chars(64, 'A')
	wantAll(t, full, api.ErrBad)
}

func TestNextOfFullLists(t *testing.T) {
	full := plain(api.MaxAudit)
	at := full[api.MaxAudit-1].At
	// Up to one short of it there is room for one more.
	last := full[api.MaxAudit-1]
	wantNext(t, full[:api.MaxAudit-1], last.At, last.User, last.Deed, last.Outcome, full, api.OK)
	wantNext(t, full, at, "ann", "raise", 200, nil, api.ErrMany)
	wantNext(t, full, at-1, "ann", "raise", 200, nil, api.ErrMany)
	wantNext(t, full, -1, "ann", "raise", 200, nil, api.ErrArg)
	wantNext(t, full, at, chars(33, 'a'), "raise", 200, nil, api.ErrText)
	wantNext(t, full, at, "ann", "raise", 600, nil, api.ErrArg)
	full[1].Seq = 7
	wantNext(t, full, at, "ann", "raise", 200, nil, api.ErrMany)
	wantCheck(t, full, 1, api.OK)
	wantNext(t, full[1:], at, "ann", "raise", 200, nil, api.ErrChain)
}

// What is wrong is told in this order, whatever is wrong behind it.
func TestNextTellsErrorsInOrder(t *testing.T) {
	well, turned := plain(3), plain(3)
	turned[1].Deed = "other"
	for _, l := range [][]api.Record{nil, well, turned} {
		for _, at := range []int{math.MinInt, -1, api.MaxClock + 1, math.MaxInt} {
			for _, user := range []string{"ann", chars(33, 'a')} {
				for _, deed := range []string{"raise", chars(16385, 'a')} {
					for _, outcome := range []int{99, 200, 600} {
						wantNext(t, l, at, user, deed, outcome, nil, api.ErrArg)
					}
				}
			}
		}
		for _, at := range []int{0, 5, 11, api.MaxClock} {
			for _, outcome := range []int{math.MinInt, 0, 99, 200, 600, math.MaxInt} {
				wantNext(t, l, at, chars(33, 'a'), "raise", outcome, nil, api.ErrText)
				wantNext(t, l, at, chars(33, 'a'), chars(16385, 'a'), outcome, nil, api.ErrText)
				wantNext(t, l, at, chars(32, 'a'), chars(16385, 'a'), outcome, nil, api.ErrText)
				wantNext(t, l, at, "", chars(1<<20, 0), outcome, nil, api.ErrText)
			}
			for _, outcome := range []int{math.MinInt, -1, 0, 99, 600, 1000, math.MaxInt} {
				wantNext(t, l, at, chars(32, 'a'), chars(16384, 'a'), outcome, nil, api.ErrArg)
			}
		}
	}
	wantNext(t, turned, 11, "ann", "raise", 200, nil, api.ErrChain)
	wantNext(t, well, 10, "ann", "raise", 200, nil, api.ErrChain)
}

func TestNextAtItsBounds(t *testing.T) {
	l := plain(3)
	for _, at := range []int{11, 12, 1 << 39, api.MaxClock - 1, api.MaxClock} {
		for _, user := range []string{"", "a", "Not a name\xff", chars(32, 'a')} {
			for _, deed := range []string{"", "raise 7", "\x00\xff\n", chars(127, 'd'), chars(128, 'd'), chars(16384, 'd')} {
				for _, outcome := range []int{100, 101, 200, 507, 598, 599} {
					wantNext(t, l, at, user, deed, outcome, modelAdded(l, at, user, deed, outcome), api.OK)
				}
			}
		}
	}
	for _, at := range []int{0, 1, 9, 10} {
		wantNext(t, l, at, "ann", "raise", 200, nil, api.ErrChain)
	}
	for _, at := range []int{0, 1, api.MaxClock} {
		wantNext(t, nil, at, "ann", "raise", 200, modelAdded(nil, at, "ann", "raise", 200), api.OK)
		wantNext(t, []api.Record{}, at, "ann", "raise", 200, modelAdded(nil, at, "ann", "raise", 200), api.OK)
	}
	late := modelAdded(nil, api.MaxClock, "", "", 100)
	wantNext(t, late, api.MaxClock, "ann", "raise", 200, modelAdded(late, api.MaxClock, "ann", "raise", 200), api.OK)
	wantNext(t, late, api.MaxClock-1, "ann", "raise", 200, nil, api.ErrChain)
}

func TestNextFieldByField(t *testing.T) {
	l, e := Next(plain(2), 77, "eve", "claim 3", 409)
	if e != api.OK || len(l) != 3 {
		t.Fatal(e, l)
	}
	if !slices.Equal(l[:2], plain(2)) {
		t.Errorf("what was there is now %v", l[:2])
	}
	r := l[2]
	if r.Seq != 2 || r.At != 77 || r.User != "eve" || r.Deed != "claim 3" || r.Outcome != 409 || r.Hash != modelHash(r, l[1].Hash) {
		t.Errorf("what is new is %+v", r)
	}
}

func otherSixteen(c byte) string {
	if c == '0' {
		return "1"
	}
	return "0"
}

// misfits make a record not fit by one thing alone: where that is its number, all digests are told anew.
func misfits() []func(l []api.Record, at int) {
	return []func(l []api.Record, at int){
		func(l []api.Record, at int) { l[at].Seq++; again(l, at) },
		func(l []api.Record, at int) { l[at].Seq = (at + 3) % 5; again(l, at) },
		func(l []api.Record, at int) { l[at].Seq = math.MaxInt; again(l, at) },
		func(l []api.Record, at int) { l[at].Seq += 1 << 32; again(l, at) },
		func(l []api.Record, at int) { l[at].Hash = chars(64, '0') },
		func(l []api.Record, at int) { l[at].Hash = chars(64, 'f') },
		func(l []api.Record, at int) { l[at].Hash = plain(9)[8].Hash },
		func(l []api.Record, at int) { l[at].Hash = modelHash(l[at], chars(64, '1')) },
		func(l []api.Record, at int) { l[at].Hash = l[at].Hash[:63] + otherSixteen(l[at].Hash[63]) },
		func(l []api.Record, at int) { l[at].Hash = otherSixteen(l[at].Hash[0]) + l[at].Hash[1:] },
		func(l []api.Record, at int) { l[at].At++ },
		func(l []api.Record, at int) { l[at].At-- },
		func(l []api.Record, at int) { l[at].At = api.MaxClock },
		func(l []api.Record, at int) { l[at].User += "x" },
		func(l []api.Record, at int) { l[at].User = "eve" },
		func(l []api.Record, at int) { l[at].Deed += "x" },
		func(l []api.Record, at int) { l[at].Deed = "" },
		func(l []api.Record, at int) { l[at].Outcome++ },
		func(l []api.Record, at int) { l[at].Outcome = 100 },
		// What one text loses the other one gets.
		func(l []api.Record, at int) { l[at].User, l[at].Deed = l[at].User+l[at].Deed[:1], l[at].Deed[1:] },
		func(l []api.Record, at int) { l[at].User, l[at].Deed = l[at].Deed, l[at].User },
	}
}

func TestCheckOfChainsThatDoNotFit(t *testing.T) {
	for n := 1; n <= 6; n++ {
		for i, turn := range misfits() {
			for at := range n {
				l := plain(n)
				turn(l, at)
				if want, e := modelCheck(l); want != at || e != api.OK {
					t.Fatalf("the model is wrong at %d of %d, by %d: %d, %d", at, n, i, want, e)
				}
				wantCheck(t, l, at, api.OK)
				wantNext(t, l, api.MaxClock, "ann", "raise", 200, nil, api.ErrChain)
				wantHead(t, l, l[n-1].Hash, api.OK)
				wantRange(t, l, 0, n, l, api.OK)
			}
		}
	}
}

// The first of several is told.
func TestCheckTellsTheFirst(t *testing.T) {
	l := plain(6)
	for at := 5; at >= 0; at-- {
		l[at].Deed = "other"
		wantCheck(t, l, at, api.OK)
	}
}

func TestCheckByMoments(t *testing.T) {
	// A moment below the one ahead, all digests told anew: nothing else is wrong.
	for at := 1; at < 6; at++ {
		l := plain(6)
		l[at].At = l[at-1].At - 1
		again(l, at)
		wantCheck(t, l, at, api.OK)
		wantNext(t, l, api.MaxClock, "ann", "raise", 200, nil, api.ErrChain)
		l[at].At = l[at-1].At
		again(l, at)
		wantCheck(t, l, -1, api.OK)
		l[at].At = 0
		again(l, at)
		wantCheck(t, l, at, api.OK)
	}
	// Behind nothing any moment fits.
	for _, at := range []int{0, 1, 5, api.MaxClock} {
		wantCheck(t, modelAdded(nil, at, "ann", "raise", 200), -1, api.OK)
	}
}

// The first record fits behind noughts alone, with the number 0: a later piece of a chain is none.
func TestCheckOfPieces(t *testing.T) {
	l := plain(6)
	for from := range 6 {
		for to := from + 1; to <= 6; to++ {
			want := 0
			if from == 0 {
				want = -1
			}
			wantCheck(t, l[from:to], want, api.OK)
		}
	}
	wantCheck(t, append(slices.Clone(l), l...), 6, api.OK)
	wantCheck(t, append(slices.Clone(l), l[5]), 6, api.OK)
}

func TestRange(t *testing.T) {
	numbers := []int{math.MinInt, -2, -1, 0, 1, 2, 4, 5, 6, 7, 100, math.MaxInt - 5, math.MaxInt - 1, math.MaxInt}
	for _, n := range []int{0, 1, 2, 6} {
		l := plain(n)
		for _, from := range numbers {
			for _, count := range numbers {
				want, e := modelRange(l, from, count)
				wantRange(t, l, from, count, want, e)
			}
		}
	}
	l := plain(6)
	wantRange(t, l, 0, 6, l, api.OK)
	wantRange(t, l, 0, 7, l, api.OK)
	wantRange(t, l, 2, 3, l[2:5], api.OK)
	wantRange(t, l, 5, 1, l[5:], api.OK)
	wantRange(t, l, 5, 9, l[5:], api.OK)
	wantRange(t, l, 6, 1, nil, api.OK)
	wantRange(t, l, 1, math.MaxInt, l[1:], api.OK)
	wantRange(t, l, math.MaxInt, math.MaxInt, nil, api.OK)
	wantRange(t, l, 2, 0, nil, api.OK)
	wantRange(t, l, -1, 0, nil, api.ErrArg)
	wantRange(t, l, 0, -1, nil, api.ErrArg)
	wantRange(t, l, math.MinInt, math.MaxInt, nil, api.ErrArg)
	if got, e := Range(l, 0, -1); got != nil || e != api.ErrArg {
		t.Error("Range answers records beside its error")
	}
}

// Head tells the last one's digest as it stands there, whether it fits or not.
func TestHead(t *testing.T) {
	l := plain(6)
	for n := 1; n <= 6; n++ {
		wantHead(t, l[:n], l[n-1].Hash, api.OK)
	}
	l[5].Hash = chars(64, 'c')
	wantHead(t, l, chars(64, 'c'), api.OK)
	wantHead(t, nil, zeros, api.OK)
}
