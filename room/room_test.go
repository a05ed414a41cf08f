package room

import (
	"math"
	"math/rand"
	"slices"
	"testing"

	"docket/api"
)

const most = api.MaxSectors

// list is pieces out of From and Count, two numbers a piece.
func list(numbers ...int) []api.Piece {
	var l []api.Piece
	for i := 0; i < len(numbers); i += 2 {
		l = append(l, api.Piece{From: numbers[i], Count: numbers[i+1]})
	}
	return l
}

// singles is n pieces of one sector each, from the last one down to from.
func singles(from, n int) []api.Piece {
	var l []api.Piece
	for i := range n {
		l = append(l, api.Piece{From: from + n - 1 - i, Count: 1})
	}
	return l
}

// every is n pieces of one sector each, every step-th one from from on.
func every(from, step, n int) []api.Piece {
	var l []api.Piece
	for i := range n {
		l = append(l, api.Piece{From: from + i*step, Count: 1})
	}
	return l
}

func isPieces(t *testing.T, what string, got []api.Piece, e api.Errno, want []api.Piece) {
	t.Helper()
	if e != api.OK || !slices.Equal(got, want) {
		t.Errorf("%s: error %d, %v; want %v", what, e, got, want)
	}
}

func isNoPieces(t *testing.T, what string, got []api.Piece, e, want api.Errno) {
	t.Helper()
	if e != want || len(got) != 0 {
		t.Errorf("%s: error %d, %v; want error %d and none", what, e, got, want)
	}
}

func isMany(t *testing.T, what string, got int, e api.Errno, want int) {
	t.Helper()
	if e != api.OK || got != want {
		t.Errorf("%s: error %d, %d; want %d", what, e, got, want)
	}
}

func isSectors(t *testing.T, what string, got []int, e api.Errno, want []int) {
	t.Helper()
	if e != api.OK || !slices.Equal(got, want) {
		t.Errorf("%s: error %d, %v; want %v", what, e, got, want)
	}
}

func TestExamples(t *testing.T) {
	two := list(3, 2, 7, 1)
	free, e := Free(2, 10, two)
	isPieces(t, "Free(2, 10, (3 2) (7 1))", free, e, list(2, 1, 5, 2, 8, 2))
	n, e := Many(free)
	isMany(t, "Many of it", n, e, 5)
	l, e := Take(2, 10, two, 2)
	isPieces(t, "Take of 2", l, e, list(2, 1, 5, 1))
	l, e = Take(2, 10, two, 5)
	isPieces(t, "Take of 5", l, e, list(2, 1, 5, 2, 8, 2))
	l, e = Take(2, 10, two, 6)
	isNoPieces(t, "Take of 6", l, e, api.ErrSpace)
	l, e = Join(list(5, 1, 3, 2))
	isPieces(t, "Join((5 1) (3 2))", l, e, list(3, 3))
	s, e := Sectors(list(5, 1, 3, 2))
	isSectors(t, "Sectors((5 1) (3 2))", s, e, []int{5, 3, 4})
	for _, l := range [][]api.Piece{list(3, 2, 4, 1), list(9, 2), list(3, 0)} {
		if e := Check(10, l); e != api.ErrBad {
			t.Errorf("Check(10, %v) = %d", l, e)
		}
	}
	if e := Check(4097, nil); e != api.ErrArg {
		t.Errorf("Check(4097, none) = %d", e)
	}
}

func wrongCounts() []int {
	return []int{-1, -2, -most, math.MinInt, most + 1, most + 2, 2 * most, math.MaxInt}
}

func TestCheckCount(t *testing.T) {
	for _, count := range []int{0, 1, 2, 95, most - 1, most} {
		for _, l := range [][]api.Piece{nil, {}} {
			if e := Check(count, l); e != api.OK {
				t.Errorf("Check(%d, none) = %d", count, e)
			}
		}
		if e := Check(count, list(0, count)); count > 0 && e != api.OK {
			t.Errorf("Check(%d, all) = %d", count, e)
		}
		if e := Check(count, list(0, count+1)); e != api.ErrBad {
			t.Errorf("Check(%d, one more) = %d", count, e)
		}
		if e := Check(count, list(count, 1)); e != api.ErrBad {
			t.Errorf("Check(%d, the one behind) = %d", count, e)
		}
	}
	for _, count := range wrongCounts() {
		for _, l := range [][]api.Piece{nil, list(0, 1), list(0, 0), make([]api.Piece, most+1)} {
			if e := Check(count, l); e != api.ErrArg {
				t.Errorf("Check(%d, %d pieces) = %d", count, len(l), e)
			}
		}
	}
}

func TestCheckMany(t *testing.T) {
	for _, c := range []struct {
		what  string
		count int
		l     []api.Piece
		want  api.Errno
	}{
		{"most pieces", most, singles(0, most), api.OK},
		{"most pieces, one out of it", most - 1, singles(0, most), api.ErrBad},
		{"most pieces, one twice", most, append(singles(1, most-1), api.Piece{From: 7, Count: 1}), api.ErrBad},
		{"most pieces, each of nothing", most, make([]api.Piece, most), api.ErrBad},
		{"one more than most", most, singles(0, most+1), api.ErrMany},
		{"one more than most, each of nothing", most, make([]api.Piece, most+1), api.ErrMany},
		{"one more than most, of few sectors", 3, make([]api.Piece, most+1), api.ErrMany},
		{"one more than most, of no sector", 0, make([]api.Piece, most+1), api.ErrMany},
		{"more pieces than sectors", 3, singles(0, 4), api.ErrBad},
	} {
		if e := Check(c.count, c.l); e != c.want {
			t.Errorf("%s: %d, want %d", c.what, e, c.want)
		}
	}
}

// goodLists may be among 10 sectors; runs are those of their sectors.
func goodLists() map[string]struct{ l, runs []api.Piece } {
	return map[string]struct{ l, runs []api.Piece }{
		"nil":                        {nil, nil},
		"no piece":                   {[]api.Piece{}, nil},
		"all in one":                 {list(0, 10), list(0, 10)},
		"all one by one":             {singles(0, 10), list(0, 10)},
		"all, in any order":          {list(7, 3, 0, 2, 4, 3, 2, 2), list(0, 10)},
		"the first":                  {list(0, 1), list(0, 1)},
		"the last":                   {list(9, 1), list(9, 1)},
		"all but the first":          {list(1, 9), list(1, 9)},
		"all but the last":           {list(0, 9), list(0, 9)},
		"two apart":                  {list(3, 2, 7, 1), list(3, 2, 7, 1)},
		"two apart, falling":         {list(7, 1, 3, 2), list(3, 2, 7, 1)},
		"two that touch":             {list(3, 2, 5, 2), list(3, 4)},
		"two that touch, falling":    {list(5, 2, 3, 2), list(3, 4)},
		"three, the middle one last": {list(2, 1, 4, 1, 3, 1), list(2, 3)},
		"runs of several":            {list(8, 1, 1, 1, 0, 1, 5, 2, 4, 1), list(0, 2, 4, 3, 8, 1)},
		"every second":               {every(0, 2, 5), every(0, 2, 5)},
	}
}

// badLists may be neither among 10 sectors nor among any other count.
func badLists() map[string][]api.Piece {
	return map[string][]api.Piece{
		"a piece of nothing":            list(3, 0),
		"nothing at the first":          list(0, 0),
		"nothing behind the last":       list(most, 0),
		"nothing between others":        list(1, 2, 6, 0, 8, 1),
		"nothing within another one":    list(1, 4, 2, 0),
		"a Count below 0":               list(3, -1),
		"a Count far below 0":           list(3, math.MinInt),
		"a Count below 0 at the last":   list(9, -9),
		"a From below 0":                list(-1, 2),
		"a From below 0, ending ahead":  list(-1, 1),
		"a From below 0, to 0":          list(-2, 2),
		"a From far below 0":            list(math.MinInt, 1),
		"both below 0":                  list(-1, -1),
		"both far below 0":              list(math.MinInt, math.MinInt),
		"far below 0 and very long":     list(math.MinInt, math.MaxInt),
		"behind the last":               list(most, 1),
		"past the last":                 list(most-1, 2),
		"one more than all":             list(0, most+1),
		"far away":                      list(math.MaxInt, 1),
		"far away and very long":        list(math.MaxInt, math.MaxInt),
		"the end wraps round to 0":      list(1, math.MaxInt),
		"the end wraps round":           list(2, math.MaxInt),
		"the end wraps round at last":   list(9, math.MaxInt),
		"very long":                     list(0, math.MaxInt),
		"a high bit alone":              list(1, 1<<62),
		"the same twice":                list(3, 2, 3, 2),
		"one sector twice":              list(3, 1, 3, 1),
		"the last of one in the next":   list(3, 2, 4, 1),
		"the same, falling":             list(4, 1, 3, 2),
		"crossing":                      list(2, 3, 4, 3),
		"crossing, falling":             list(4, 3, 2, 3),
		"one within the other":          list(2, 6, 4, 1),
		"one within, falling":           list(4, 1, 2, 6),
		"same From, longer behind":      list(2, 1, 2, 3),
		"same From, longer ahead":       list(2, 3, 2, 1),
		"same end":                      list(2, 4, 5, 1),
		"all, and one of them":          list(0, 10, 9, 1),
		"twice with others between":     list(3, 1, 0, 1, 8, 2, 5, 1, 3, 1),
		"a long one over several":       list(1, 1, 3, 1, 0, 9),
		"over one that is far in front": list(0, 5, 6, 1, 4, 1),
		"good ones and a bad one":       list(0, 1, 2, 1, 4, 1, 6, 0),
		"a bad one and good ones":       list(6, -1, 0, 1, 2, 1),
		"takes back what it had":        list(0, 8, 8, -4, 4, 2),
	}
}

func TestCheckPieces(t *testing.T) {
	for name, c := range goodLists() {
		for _, count := range []int{10, 11, most} {
			if e := Check(count, c.l); e != api.OK {
				t.Errorf("%s among %d: %d", name, count, e)
			}
		}
	}
	for name, l := range badLists() {
		for _, count := range []int{0, 1, 10, 11, most - 1, most} {
			if e := Check(count, l); e != api.ErrBad {
				t.Errorf("%s among %d: %d", name, count, e)
			}
		}
	}
	for _, l := range [][]api.Piece{list(9, 2), list(10, 1), list(0, 11), list(9, 1, 0, 2, 10, 1), list(3, 8)} {
		if e := Check(10, l); e != api.ErrBad {
			t.Errorf("Check(10, %v) = %d", l, e)
		}
		if e := Check(11, l); e != api.OK {
			t.Errorf("Check(11, %v) = %d", l, e)
		}
	}
}

func TestFreeFirst(t *testing.T) {
	two := list(7, 1, 3, 2)
	for first, want := range [][]api.Piece{
		list(0, 3, 5, 2, 8, 2), list(1, 2, 5, 2, 8, 2), list(2, 1, 5, 2, 8, 2), list(5, 2, 8, 2), list(5, 2, 8, 2), list(5, 2, 8, 2),
		list(6, 1, 8, 2), list(8, 2), list(8, 2), list(9, 1), nil,
	} {
		l, e := Free(first, 10, two)
		isPieces(t, "Free", l, e, want)
	}
	for _, first := range []int{-1, -2, 11, 12, most, math.MinInt, math.MaxInt} {
		l, e := Free(first, 10, two)
		isNoPieces(t, "Free", l, e, api.ErrArg)
		for _, many := range []int{0, 1, most} {
			l, e = Take(first, 10, two, many)
			isNoPieces(t, "Take", l, e, api.ErrArg)
		}
	}
}

func TestFreeCount(t *testing.T) {
	for _, count := range []int{0, 1, 2, most - 1, most} {
		for _, none := range [][]api.Piece{nil, {}} {
			l, e := Free(0, count, none)
			if count == 0 {
				isPieces(t, "Free of no sector", l, e, nil)
				continue
			}
			isPieces(t, "Free of all", l, e, list(0, count))
			l, e = Free(count-1, count, none)
			isPieces(t, "Free of the last", l, e, list(count-1, 1))
			l, e = Free(count, count, none)
			isPieces(t, "Free behind the last", l, e, nil)
			l, e = Free(count+1, count, none)
			isNoPieces(t, "Free further on", l, e, api.ErrArg)
			l, e = Free(0, count, list(0, count))
			isPieces(t, "Free of none", l, e, nil)
			l, e = Free(0, count, singles(0, count))
			isPieces(t, "Free of none, one by one", l, e, nil)
		}
	}
	for _, count := range wrongCounts() {
		for _, first := range []int{-1, 0, 1, count} {
			l, e := Free(first, count, nil)
			isNoPieces(t, "Free", l, e, api.ErrArg)
			l, e = Take(first, count, nil, 0)
			isNoPieces(t, "Take", l, e, api.ErrArg)
		}
	}
}

// The longest lists that may be: every second sector taken, all of them one by one.
func TestLongestLists(t *testing.T) {
	l, e := Free(0, most, every(0, 2, most/2))
	isPieces(t, "Free beside even ones", l, e, every(1, 2, most/2))
	l, e = Free(0, most, every(1, 2, most/2))
	isPieces(t, "Free beside odd ones", l, e, every(0, 2, most/2))
	l, e = Take(0, most, every(0, 2, most/2), most/2)
	isPieces(t, "Take of all odd ones", l, e, every(1, 2, most/2))
	l, e = Take(0, most, every(0, 2, most/2), most/2+1)
	isNoPieces(t, "Take of one more", l, e, api.ErrSpace)
	l, e = Join(singles(0, most))
	isPieces(t, "Join of all", l, e, list(0, most))
	l, e = Join(every(1, 2, most/2))
	isPieces(t, "Join of odd ones", l, e, every(1, 2, most/2))
	n, e := Many(singles(0, most))
	isMany(t, "Many of all", n, e, most)
	s, e := Sectors(singles(0, most))
	want := make([]int, most)
	for i := range want {
		want[i] = most - 1 - i
	}
	isSectors(t, "Sectors of all", s, e, want)
}

func TestTakeMany(t *testing.T) {
	two := list(7, 1, 3, 2)
	for many, want := range [][]api.Piece{
		nil, list(0, 1), list(0, 2), list(0, 3), list(0, 3, 5, 1), list(0, 3, 5, 2), list(0, 3, 5, 2, 8, 1), list(0, 3, 5, 2, 8, 2),
	} {
		l, e := Take(0, 10, two, many)
		isPieces(t, "Take", l, e, want)
	}
	for _, many := range []int{8, 9, 10, 11, most - 1, most} {
		l, e := Take(0, 10, two, many)
		isNoPieces(t, "Take of too many", l, e, api.ErrSpace)
	}
	for _, many := range []int{-1, -2, math.MinInt, most + 1, most + 2, math.MaxInt} {
		for _, l := range [][]api.Piece{nil, two, list(0, 10)} {
			l, e := Take(0, 10, l, many)
			isNoPieces(t, "Take of no number that may be", l, e, api.ErrArg)
		}
	}
	// Those below first are not free, however many they are.
	l, e := Take(6, 10, two, 3)
	isPieces(t, "Take from 6", l, e, list(6, 1, 8, 2))
	l, e = Take(6, 10, two, 4)
	isNoPieces(t, "Take of one more from 6", l, e, api.ErrSpace)
	l, e = Take(0, most, nil, most)
	isPieces(t, "Take of all", l, e, list(0, most))
	l, e = Take(1, most, nil, most)
	isNoPieces(t, "Take of all from 1", l, e, api.ErrSpace)
	l, e = Take(1, most, nil, most-1)
	isPieces(t, "Take of all but one", l, e, list(1, most-1))
}

// None is taken even where none is free.
func TestTakeOfNone(t *testing.T) {
	for _, c := range []struct {
		first, count int
		l            []api.Piece
	}{{0, 0, nil}, {0, 0, []api.Piece{}}, {10, 10, nil}, {0, 10, list(0, 10)}, {0, 10, nil}, {4, 10, list(4, 6)}, {most, most, nil}} {
		l, e := Take(c.first, c.count, c.l, 0)
		isPieces(t, "Take of 0", l, e, nil)
	}
	for _, c := range []struct {
		first, count int
		l            []api.Piece
	}{{0, 0, nil}, {10, 10, nil}, {0, 10, list(0, 10)}, {4, 10, list(4, 6)}, {most, most, nil}} {
		l, e := Take(c.first, c.count, c.l, 1)
		isNoPieces(t, "Take of 1", l, e, api.ErrSpace)
	}
}

// Numbers are judged first, all of them, then the list's length, then its pieces, and only then whether there is room.
func TestErrorsInOrder(t *testing.T) {
	long, bad, good := make([]api.Piece, most+1), list(3, 0), list(0, 10)
	for _, c := range []struct {
		first, count, many int
		l                  []api.Piece
		want               api.Errno
	}{
		{0, -1, 0, long, api.ErrArg}, {0, -1, 0, bad, api.ErrArg}, {0, most + 1, most, long, api.ErrArg},
		{-1, 10, 0, long, api.ErrArg}, {11, 10, 0, bad, api.ErrArg}, {11, 10, most, good, api.ErrArg},
		{0, 10, 0, long, api.ErrMany}, {10, 10, most, long, api.ErrMany}, {0, 0, 1, long, api.ErrMany},
		{0, 10, 0, bad, api.ErrBad}, {10, 10, most, bad, api.ErrBad}, {0, 10, 11, list(9, 2), api.ErrBad},
		{0, 10, most, list(3, 1, 3, 1), api.ErrBad}, {5, 10, 6, list(0, 1, 0, 1), api.ErrBad},
	} {
		if c.first == 0 {
			if e := Check(c.count, c.l); e != c.want {
				t.Errorf("Check(%d, %d pieces) = %d, want %d", c.count, len(c.l), e, c.want)
			}
		}
		l, e := Free(c.first, c.count, c.l)
		isNoPieces(t, "Free", l, e, c.want)
		l, e = Take(c.first, c.count, c.l, c.many)
		isNoPieces(t, "Take", l, e, c.want)
	}
	for _, many := range []int{-1, most + 1} {
		for _, l := range [][]api.Piece{long, bad, good} {
			l, e := Take(0, 10, l, many)
			isNoPieces(t, "Take", l, e, api.ErrArg)
		}
	}
}

func TestBadPieces(t *testing.T) {
	refuse := func(name string, l []api.Piece, want api.Errno) {
		got, e := Free(0, most, l)
		isNoPieces(t, name+": Free", got, e, want)
		got, e = Free(most, most, l)
		isNoPieces(t, name+": Free behind all", got, e, want)
		got, e = Take(0, most, l, 0)
		isNoPieces(t, name+": Take of none", got, e, want)
		got, e = Take(0, most, l, most)
		isNoPieces(t, name+": Take of most", got, e, want)
		got, e = Join(l)
		isNoPieces(t, name+": Join", got, e, want)
		if n, e := Many(l); n != 0 || e != want {
			t.Errorf("%s: Many: %d, error %d, want %d", name, n, e, want)
		}
		if s, e := Sectors(l); len(s) != 0 || e != want {
			t.Errorf("%s: Sectors: %v, error %d, want %d", name, s, e, want)
		}
	}
	for name, l := range badLists() {
		refuse(name, l, api.ErrBad)
	}
	refuse("too many", singles(0, most+1), api.ErrMany)
	refuse("too many of nothing", make([]api.Piece, most+1), api.ErrMany)
	// Pieces below first are judged too.
	l, e := Free(5, 10, list(0, 2, 1, 2))
	isNoPieces(t, "Free above bad ones", l, e, api.ErrBad)
	l, e = Take(5, 10, list(0, 2, 1, 2), 1)
	isNoPieces(t, "Take above bad ones", l, e, api.ErrBad)
}

func TestManyJoinSectors(t *testing.T) {
	for name, c := range goodLists() {
		var want []int
		for _, p := range c.l {
			for n := p.From; n < p.From+p.Count; n++ {
				want = append(want, n)
			}
		}
		l, e := Join(c.l)
		isPieces(t, name+": Join", l, e, c.runs)
		n, e := Many(c.l)
		isMany(t, name+": Many", n, e, len(want))
		s, e := Sectors(c.l)
		isSectors(t, name+": Sectors", s, e, want)
	}
	// They ask for no count: the last sector of the greatest disk may be.
	ends := list(most-1, 1, 0, 1, most-3, 2)
	l, e := Join(ends)
	isPieces(t, "Join of the ends", l, e, list(0, 1, most-3, 3))
	n, e := Many(ends)
	isMany(t, "Many of the ends", n, e, 4)
	s, e := Sectors(ends)
	isSectors(t, "Sectors of the ends", s, e, []int{most - 1, 0, most - 3, most - 2})
	n, e = Many(list(0, most))
	isMany(t, "Many of all in one", n, e, most)
}

// guarded is a list with spare room, and a look at all of it.
func guarded(l []api.Piece) (part, all []api.Piece) {
	all = append(slices.Clone(l), list(77, 7, 88, 8, 99, 9)...)
	return all[:len(l)], all
}

func TestOnlyRead(t *testing.T) {
	lists := badLists()
	for name, c := range goodLists() {
		lists[name] = c.l
	}
	for name, l := range lists {
		part, all := guarded(l)
		before := slices.Clone(all)
		Check(10, part)
		Free(0, 10, part)
		Many(part)
		Take(0, 10, part, 2)
		Join(part)
		Sectors(part)
		if !slices.Equal(all, before) {
			t.Errorf("%s: turned to %v", name, all)
		}
	}
}

// A list that is answered may be turned by who asked, its spare room too, and nothing else turns.
func TestNewMemory(t *testing.T) {
	calls := map[string]func(l []api.Piece) ([]api.Piece, api.Errno){
		"Free": func(l []api.Piece) ([]api.Piece, api.Errno) { return Free(0, 10, l) },
		"Take": func(l []api.Piece) ([]api.Piece, api.Errno) { return Take(0, 10, l, 1) },
		"Join": Join,
	}
	for name, call := range calls {
		for _, l := range [][]api.Piece{list(3, 2, 7, 1), list(7, 1, 3, 2), list(0, 1), list(2, 1, 3, 1)} {
			part, all := guarded(l)
			before := slices.Clone(all)
			a, e := call(part)
			want := slices.Clone(a)
			b, e2 := call(part)
			if e != api.OK || e2 != api.OK || len(a) == 0 {
				t.Fatalf("%s(%v): errors %d, %d", name, l, e, e2)
			}
			spoil(a, api.Piece{From: -5, Count: -5})
			if !slices.Equal(all, before) || !slices.Equal(b, want) {
				t.Errorf("%s(%v) shares what it answers", name, l)
			}
			again, e := call(part)
			isPieces(t, name+" once more", again, e, want)
		}
	}
	l := list(5, 1, 3, 2)
	a, _ := Sectors(l)
	b, _ := Sectors(l)
	spoil(a, -5)
	isSectors(t, "Sectors", b, api.OK, []int{5, 3, 4})
}

// spoil turns all of a list's memory.
func spoil[T any](l []T, x T) {
	l = l[:cap(l)]
	for i := range l {
		l[i] = x
	}
}

// model judges pieces sector by sector: whether they may be, and which sectors they have.
func model(count int, l []api.Piece) (has []bool, ok bool) {
	has = make([]bool, count)
	for _, p := range l {
		if p.Count < 1 || p.From < 0 {
			return nil, false
		}
		for i := range p.Count {
			if p.From+i >= count || has[p.From+i] {
				return nil, false
			}
			has[p.From+i] = true
		}
	}
	return has, true
}

// runsOf are the runs of the sectors from first on of which has says x, at most so many sectors; and how many they are.
func runsOf(has []bool, x bool, first, many int) (runs []api.Piece, got int) {
	begun := false
	for n := first; n < len(has) && got < many; n++ {
		switch {
		case has[n] != x:
			begun = false
			continue
		case begun:
			runs[len(runs)-1].Count++
		default:
			runs = append(runs, api.Piece{From: n, Count: 1})
		}
		begun = true
		got++
	}
	return runs, got
}

// againstModel holds each call's answer against the model's.
func againstModel(t *testing.T, first, count int, l []api.Piece, many int) {
	t.Helper()
	has, ok := model(count, l)
	free, e := Free(first, count, l)
	taken, e2 := Take(first, count, l, many)
	e3 := Check(count, l)
	if !ok {
		if e != api.ErrBad || e2 != api.ErrBad || e3 != api.ErrBad || len(free)+len(taken) != 0 {
			t.Fatalf("%v among %d may not be: errors %d, %d, %d", l, count, e, e2, e3)
		}
		return
	}
	if e3 != api.OK {
		t.Fatalf("Check(%d, %v) = %d", count, l, e3)
	}
	want, _ := runsOf(has, false, first, count)
	isPieces(t, "Free", free, e, want)
	want, got := runsOf(has, false, first, many)
	if got < many {
		isNoPieces(t, "Take", taken, e2, api.ErrSpace)
	} else {
		isPieces(t, "Take", taken, e2, want)
	}
	joined, e := Join(l)
	want, got = runsOf(has, true, 0, count)
	isPieces(t, "Join", joined, e, want)
	n, e := Many(l)
	isMany(t, "Many", n, e, got)
}

// All lists of up to two pieces in and about few sectors, with each first and many.
func TestAllSmallLists(t *testing.T) {
	var pieces []api.Piece
	for from := -1; from <= 4; from++ {
		for n := -1; n <= 5; n++ {
			pieces = append(pieces, api.Piece{From: from, Count: n})
		}
	}
	lists := [][]api.Piece{nil}
	for _, a := range pieces {
		lists = append(lists, []api.Piece{a})
		for _, b := range pieces {
			lists = append(lists, []api.Piece{a, b})
		}
	}
	for count := 0; count <= 4; count++ {
		for first := 0; first <= count; first++ {
			for many := 0; many <= count+1; many++ {
				for _, l := range lists {
					againstModel(t, first, count, l, many)
				}
			}
		}
	}
}

// drawn is pieces that may be among so many sectors, in any order; those that touch are among them.
func drawn(r *rand.Rand, count int) []api.Piece {
	var l []api.Piece
	gaps, longest := r.Intn(4), 1+r.Intn(1+count/4)
	for n := 0; n < count; {
		m := min(1+r.Intn(longest), count-n)
		if r.Intn(4) >= gaps {
			l = append(l, api.Piece{From: n, Count: m})
		}
		n += m
	}
	r.Shuffle(len(l), func(i, j int) { l[i], l[j] = l[j], l[i] })
	return l
}

func drawnCount(r *rand.Rand) int {
	if r.Intn(20) == 0 {
		return r.Intn(most + 1)
	}
	return r.Intn(60)
}

func TestDrawnLists(t *testing.T) {
	r := rand.New(rand.NewSource(3))
	for range 3000 {
		count := drawnCount(r)
		l := drawn(r, count)
		first, many := r.Intn(count+1), r.Intn(count+2)
		if many > most {
			many = most
		}
		againstModel(t, first, count, l, many)
		if len(l) == 0 {
			continue
		}
		// One of them turned a little: it may cross another one, stand out, be nothing, or be well.
		l[r.Intn(len(l))].From += r.Intn(5) - 2
		l[r.Intn(len(l))].Count += r.Intn(5) - 2
		againstModel(t, first, count, l, many)
	}
}

// sectorsOf asks for sectors, in rising order.
func sectorsOf(t *testing.T, l []api.Piece) []int {
	t.Helper()
	s, e := Sectors(l)
	if e != api.OK {
		t.Fatalf("Sectors(%v): %d", l, e)
	}
	slices.Sort(s)
	return s
}

// isRuns tells whether pieces rise and none touches the next one.
func isRuns(l []api.Piece) bool {
	for i, p := range l {
		if p.Count < 1 || i > 0 && l[i-1].From+l[i-1].Count >= p.From {
			return false
		}
	}
	return true
}

// What P3.5 says, by the package's own calls.
func TestWhatFollows(t *testing.T) {
	r := rand.New(rand.NewSource(35))
	for range 2000 {
		count := drawnCount(r)
		l := drawn(r, count)
		first := r.Intn(count + 1)
		free, e := Free(first, count, l)
		if e != api.OK || !isRuns(free) {
			t.Fatalf("Free(%d, %d, %v): %d, %v", first, count, l, e, free)
		}
		both := append(slices.Clone(l), free...)
		if e := Check(count, both); e != api.OK {
			t.Fatalf("free and taken together: %d", e)
		}
		all := sectorsOf(t, both)
		for n := range first {
			if !slices.Contains(all, n) {
				all = append(all, n)
			}
		}
		if len(all) != count {
			t.Fatalf("free, taken, and below %d: %d of %d sectors", first, len(all), count)
		}
		n, _ := Many(free)
		many := r.Intn(n + 1)
		took, e := Take(first, count, l, many)
		if got, _ := Many(took); e != api.OK || got != many || !isRuns(took) {
			t.Fatalf("Take of %d: error %d, %v", many, e, took)
		}
		if !slices.Equal(sectorsOf(t, took), sectorsOf(t, free)[:many]) {
			t.Fatalf("Take of %d: %v, free are %v", many, took, free)
		}
		if n < most {
			if took, e = Take(first, count, l, n+1); e != api.ErrSpace || len(took) != 0 {
				t.Fatalf("Take of more than are free: error %d, %v", e, took)
			}
		}
		joined, e := Join(l)
		if e != api.OK || !isRuns(joined) || !slices.Equal(sectorsOf(t, joined), sectorsOf(t, l)) {
			t.Fatalf("Join(%v): error %d, %v", l, e, joined)
		}
		if took, e = Take(first, count, l, 0); e != api.OK || len(took) != 0 {
			t.Fatalf("Take of none: error %d, %v", e, took)
		}
	}
}
