package key

import (
	"math"
	"math/rand"
	"slices"
	"strings"
	"testing"

	"docket/api"
)

func list(l ...api.Part) []api.Part { return l }

// chars is a text of n bytes c.
func chars(n int, c byte) string { return strings.Repeat(string([]byte{c}), n) }

// nums are n parts, each a number.
func nums(n int) []api.Part {
	l := make([]api.Part, n)
	for i := range l {
		l[i] = Num(int64(i))
	}
	return l
}

func wantMake(t *testing.T, l []api.Part, want string, e api.Errno) {
	t.Helper()
	if got, ge := Make(l); got != want || ge != e {
		t.Errorf("Make(%v) = %q, %d, want %q, %d", l, got, ge, want, e)
	}
}

func wantCut(t *testing.T, key string, want []api.Part, e api.Errno) {
	t.Helper()
	got, ge := Cut(key)
	if !slices.Equal(got, want) || ge != e {
		t.Errorf("Cut(%q) = %v, %d, want %v, %d", key, got, ge, want, e)
	}
}

func wantLess(t *testing.T, a, b []api.Part, want bool) {
	t.Helper()
	if got := Less(a, b); got != want {
		t.Errorf("Less(%v, %v) = %t", a, b, got)
	}
}

func wantAfter(t *testing.T, key, want string, is bool) {
	t.Helper()
	if got, gi := After(key); got != want || gi != is {
		t.Errorf("After(%q) = %q, %t, want %q, %t", key, got, gi, want, is)
	}
}

func TestExamples(t *testing.T) {
	wantMake(t, list(Num(5)), "\x01\x80\x00\x00\x00\x00\x00\x00\x05", api.OK)
	wantMake(t, list(Num(-1)), "\x01\x7f\xff\xff\xff\xff\xff\xff\xff", api.OK)
	wantMake(t, list(Word("ab")), "\x02ab\x00\x01", api.OK)
	wantMake(t, list(Word("a\x00")), "\x02a\x00\xff\x00\x01", api.OK)
	whole := "\x02case\x00\x01\x01\x80\x00\x00\x00\x00\x00\x00\x07"
	wantMake(t, list(Word("case"), Num(7)), whole, api.OK)
	wantCut(t, whole, list(Word("case"), Num(7)), api.OK)
	wantLess(t, list(Word("a")), list(Word("a"), Num(1)), true)
	wantLess(t, list(Num(7)), list(Word("a")), true)
	wantAfter(t, "a\xff", "b", true)
	wantAfter(t, "\xff", "", false)
	wantCut(t, "\x01\x02", nil, api.ErrKey)
	wantCut(t, "\x02a", nil, api.ErrKey)
	wantCut(t, "\x02a\x00\x02", nil, api.ErrKey)
	wantMake(t, nums(9), "", api.ErrMany)
}

func TestMakeNumbers(t *testing.T) {
	for _, c := range []struct {
		n    int64
		want string
	}{
		{math.MinInt64, "\x00\x00\x00\x00\x00\x00\x00\x00"},
		{math.MinInt64 + 1, "\x00\x00\x00\x00\x00\x00\x00\x01"},
		{-257, "\x7f\xff\xff\xff\xff\xff\xfe\xff"},
		{-1, "\x7f\xff\xff\xff\xff\xff\xff\xff"},
		{0, "\x80\x00\x00\x00\x00\x00\x00\x00"},
		{1, "\x80\x00\x00\x00\x00\x00\x00\x01"},
		{256, "\x80\x00\x00\x00\x00\x00\x01\x00"},
		{0x0102030405060708, "\x81\x02\x03\x04\x05\x06\x07\x08"},
		{math.MaxInt64, "\xff\xff\xff\xff\xff\xff\xff\xff"},
	} {
		wantMake(t, list(Num(c.n)), "\x01"+c.want, api.OK)
		wantCut(t, "\x01"+c.want, list(Num(c.n)), api.OK)
	}
}

func TestMakeTexts(t *testing.T) {
	for _, c := range []struct{ text, want string }{
		{"", ""},
		{"\x00", "\x00\xff"},
		{"\x01", "\x01"},
		{"\x02", "\x02"},
		{"\xfe", "\xfe"},
		{"\xff", "\xff"},
		{"\x00a", "\x00\xffa"},
		{"a\x00\x00b", "a\x00\xff\x00\xffb"},
		{"ab\x00", "ab\x00\xff"},
		{"\x00\xff", "\x00\xff\xff"},
		{"\x00\x01", "\x00\xff\x01"},
		{"\x00\xff\x00\x01", "\x00\xff\xff\x00\xff\x01"},
		{"\xff\x00", "\xff\x00\xff"},
		{"über\xc3", "über\xc3"},
	} {
		wantMake(t, list(Word(c.text)), "\x02"+c.want+"\x00\x01", api.OK)
		wantCut(t, "\x02"+c.want+"\x00\x01", list(Word(c.text)), api.OK)
	}
}

func TestMakeLists(t *testing.T) {
	wantMake(t, nil, "", api.OK)
	wantMake(t, list(), "", api.OK)
	wantMake(t, list(Word(""), Word("")), "\x02\x00\x01\x02\x00\x01", api.OK)
	wantMake(t, list(Word("\x00"), Num(0), Word("b")), "\x02\x00\xff\x00\x01\x01\x80\x00\x00\x00\x00\x00\x00\x00\x02b\x00\x01", api.OK)
	eight := slices.Repeat(list(Word("")), api.MaxParts)
	wantMake(t, eight, strings.Repeat("\x02\x00\x01", 8), api.OK)
	wantMake(t, append(eight, Word("")), "", api.ErrMany)
	if s, e := Make(nums(8)); len(s) != 72 || e != api.OK {
		t.Errorf("eight numbers: %q, %d", s, e)
	}
	wantMake(t, nums(9), "", api.ErrMany)
	wantMake(t, nums(1000), "", api.ErrMany)
}

func TestMakePartsThatMayNotBe(t *testing.T) {
	for kind := range 256 {
		for _, n := range []int64{0, 1, -1, math.MinInt64} {
			for _, s := range []string{"", "\x00", "a", chars(1000, 'a')} {
				p := api.Part{Kind: uint8(kind), Int: n, Text: s}
				want, e := modelMake(list(p))
				wantMake(t, list(p), want, e)
				if !allowed(p) && e != api.ErrBad {
					t.Fatalf("%v may not be: %d", p, e)
				}
			}
		}
	}
	bad := []api.Part{{}, {Kind: 3}, {Kind: 255, Int: 1, Text: "a"}, {Kind: api.PartInt, Text: "a"}, {Kind: api.PartInt, Int: 1, Text: "\x00"}, {Kind: api.PartText, Int: 1}, {Kind: api.PartText, Int: -1, Text: "a"}}
	for _, p := range bad {
		for i := range api.MaxParts {
			l := nums(api.MaxParts)
			l[i] = p
			wantMake(t, l, "", api.ErrBad)
		}
	}
}

func TestMakeLongest(t *testing.T) {
	for _, c := range []struct {
		l  []api.Part
		ok bool
	}{
		{list(Word(chars(253, 'a'))), true},
		{list(Word(chars(254, 'a'))), false},
		{list(Word("\x00" + chars(251, 'a'))), true},
		{list(Word("\x00" + chars(252, 'a'))), false},
		{list(Word(chars(252, 'a') + "\x00")), false},
		{list(Word(chars(252, 'a') + "\x01")), true},
		{list(Word(chars(126, 0))), true},
		{list(Word(chars(126, 0) + "a")), true},
		{list(Word(chars(126, 0) + "ab")), false},
		{list(Word(chars(127, 0))), false},
		{list(Num(0), Word(chars(244, 255))), true},
		{list(Num(0), Word(chars(245, 255))), false},
		{list(Word(chars(125, 'a')), Word(chars(125, 'b'))), true},
		{list(Word(chars(125, 'a')), Word(chars(126, 'b'))), false},
		{append(nums(7), Word(chars(190, 'a'))), true},
		{append(nums(7), Word(chars(191, 'a'))), false},
		{append(nums(7), Word(chars(189, 'a')+"\x00")), false},
		{list(Word(chars(100000, 'a'))), false},
		{list(Word(chars(100000, 0)), Num(0)), false},
	} {
		want := ""
		for _, p := range c.l {
			want += bytesOf(p)
		}
		if c.ok != (len(want) <= api.MaxKey) {
			t.Fatalf("the key of %v has %d bytes", c.l, len(want))
		}
		if c.ok {
			wantMake(t, c.l, want, api.OK)
			wantCut(t, want, c.l, api.OK)
		} else {
			wantMake(t, c.l, "", api.ErrKey)
			wantCut(t, want, nil, api.ErrKey)
		}
	}
}

func TestMakeOrderOfErrors(t *testing.T) {
	long := Word(chars(300, 'a'))
	wantMake(t, make([]api.Part, 9), "", api.ErrMany)
	wantMake(t, slices.Repeat(list(long), 9), "", api.ErrMany)
	wantMake(t, append(slices.Repeat(list(long), 9), api.Part{}), "", api.ErrMany)
	wantMake(t, list(long, api.Part{}), "", api.ErrBad)
	wantMake(t, list(api.Part{}, long), "", api.ErrBad)
	wantMake(t, list(api.Part{Kind: api.PartText, Int: 1, Text: chars(300, 'a')}), "", api.ErrBad)
	wantMake(t, list(api.Part{Kind: api.PartInt, Text: chars(300, 'a')}), "", api.ErrBad)
	wantMake(t, append(slices.Repeat(list(long), 7), api.Part{Kind: 3}), "", api.ErrBad)
	wantMake(t, slices.Repeat(list(long), 8), "", api.ErrKey)
}

func TestCutRefuses(t *testing.T) {
	number := "\x01\x80\x00\x00\x00\x00\x00\x00\x07"
	for _, key := range []string{
		"\x01", "\x02", "\x01\x80\x00\x00\x00\x00\x00\x00",
		"\x02a", "\x02\x00", "\x02a\x00", "\x02a\x00\xff", "\x02a\x00\xff\x00", "\x02\x01",
		"\x02a\x00\x00", "\x02a\x00\x00\x01", "\x02a\x00\x02", "\x02a\x00\xfe\x00\x01", "\x02a\x00b\x00\x01", "\x02a\x00\x02\x00\x01",
		"\x00", "\x03", "\xff", "a", "\x00\x01", "\x00\xff", "\x81\x80\x00\x00\x00\x00\x00\x00\x00",
		"\x00" + number[1:], "\x03" + number[1:], "\x03\x00\x01", "\x00\x00\x01",
		number + "\x00", number + "\x01", number + "\x02", number + "\x03", number + "\x02a\x00",
		"\x02a\x00\x01\x00", "\x02a\x00\x01\x01", "\x02a\x00\x01\x02", "\x02a\x00\x01a", "\x02a\x00\x01\xff",
		strings.Repeat("\x02\x00\x01", 9), strings.Repeat(number, 9), strings.Repeat(number, 8) + "\x02\x00\x01", strings.Repeat(number, 8) + "\x00",
		"\x02" + chars(254, 'a') + "\x00\x01", "\x02\x00\xff" + chars(252, 'a') + "\x00\x01",
		strings.Repeat(number, 8) + "\x02" + chars(190, 'a') + "\x00\x01",
		chars(256, 1), chars(257, 1), chars(100000, 2),
	} {
		wantCut(t, key, nil, api.ErrKey)
		if _, e := modelCut(key[:min(len(key), 40)]); len(key) <= 40 && e != api.ErrKey {
			t.Errorf("%q is a key", key)
		}
	}
}

func TestCutWhole(t *testing.T) {
	wantCut(t, "", nil, api.OK)
	wantCut(t, "\x02\x00\x01", list(Word("")), api.OK)
	wantCut(t, strings.Repeat("\x02\x00\x01", 8), slices.Repeat(list(Word("")), 8), api.OK)
	eight, _ := Make(nums(8))
	wantCut(t, eight, nums(8), api.OK)
	wantCut(t, "\x02"+chars(253, 'a')+"\x00\x01", list(Word(chars(253, 'a'))), api.OK)
}

// Each beginning of a key that does not end between two parts is no key.
func TestCutBeginnings(t *testing.T) {
	l := list(Word("a\x00b"), Num(-7), Word("\x00\x00"), Num(math.MaxInt64), Word(""))
	whole, _ := Make(l)
	between := map[int]int{}
	at := 0
	between[0] = 0
	for i, p := range l {
		at += len(bytesOf(p))
		between[at] = i + 1
	}
	for n := range len(whole) + 1 {
		if k, is := between[n]; is {
			wantCut(t, whole[:n], l[:k], api.OK)
		} else {
			wantCut(t, whole[:n], nil, api.ErrKey)
		}
	}
}

// Each text of few bytes is a key just if it is what some parts' bytes are.
func TestCutEachShortText(t *testing.T) {
	for _, key := range texts("\x00\x01\x02a\xff", 6) {
		want, e := modelCut(key)
		wantCut(t, key, want, e)
	}
	for c := range 256 {
		for _, key := range []string{string([]byte{byte(c)}), string([]byte{2, byte(c), 0, 1}), string([]byte{2, 0, byte(c)}), string([]byte{2, 0, byte(c), 0, 1}), string([]byte{byte(c), 0, 1})} {
			want, e := modelCut(key)
			wantCut(t, key, want, e)
		}
	}
}

// A key in which something is turned, left out or put in is cut, or refused, as the chapter's words say.
func TestCutNearKeys(t *testing.T) {
	r := rand.New(rand.NewSource(2))
	kept, refused := 0, 0
	for range 20000 {
		key, e := Make(drawList(r, 4))
		if e != api.OK || key == "" {
			continue
		}
		b := []byte(key)
		for range 1 + r.Intn(2) {
			i := r.Intn(len(b))
			switch r.Intn(3) {
			case 0:
				b[i] = edges[r.Intn(len(edges))]
			case 1:
				b = slices.Insert(b, i, edges[r.Intn(len(edges))])
			case 2:
				b = slices.Insert(slices.Delete(b, i, i+1), i, []byte(drawText(r, 2))...)
			}
			if len(b) == 0 {
				b = []byte{0}
			}
		}
		want, e := modelCut(string(b))
		wantCut(t, string(b), want, e)
		if e == api.OK {
			kept++
		} else {
			refused++
		}
	}
	if kept < 1000 || refused < 1000 {
		t.Errorf("%d were keys, %d were none", kept, refused)
	}
}

func TestLess(t *testing.T) {
	rising := [][]api.Part{
		nil,
		list(Num(math.MinInt64)),
		list(Num(math.MinInt64), Num(math.MinInt64)),
		list(Num(math.MinInt64 + 1)),
		list(Num(-256)), list(Num(-1)), list(Num(0)),
		list(Num(0), Num(-1)), list(Num(0), Num(0)), list(Num(0), Word("")), list(Num(0), Word("a")),
		list(Num(1)), list(Num(255)), list(Num(256)), list(Num(math.MaxInt64)), list(Num(math.MaxInt64), Word("z")),
		list(Word("")), list(Word(""), Num(0)), list(Word(""), Word("")),
		list(Word("\x00")), list(Word("\x00"), Num(0)), list(Word("\x00\x00")), list(Word("\x00\x01")), list(Word("\x00\xff")),
		list(Word("\x01")), list(Word("\x02")),
		list(Word("a")), list(Word("a"), Num(1)), list(Word("a"), Word("z")), list(Word("a\x00")), list(Word("a\x00"), Num(0)), list(Word("a\x01")), list(Word("aa")),
		list(Word("b")), list(Word("\xfe")), list(Word("\xff")), list(Word("\xff"), Word("\xff")), list(Word("\xff\x00")), list(Word("\xff\xff")),
	}
	for i, a := range rising {
		for k, b := range rising {
			wantLess(t, a, b, i < k)
			x, _ := Make(a)
			y, _ := Make(b)
			if aheadText(x, y) != (i < k) {
				t.Errorf("the keys of %v and %v", a, b)
			}
		}
	}
}

// Parts that may not be go by Kind, then Int, then Text.
func TestLessOfPartsThatMayNotBe(t *testing.T) {
	var rising [][]api.Part
	for _, kind := range []uint8{0, 1, 2, 3, 255} {
		for _, n := range []int64{math.MinInt64, -1, 0, 1, math.MaxInt64} {
			for _, s := range []string{"", "\x00", "a", "a\x00", "b", "\xff"} {
				rising = append(rising, list(api.Part{Kind: kind, Int: n, Text: s}))
			}
		}
	}
	for i, a := range rising {
		for k, b := range rising {
			wantLess(t, a, b, i < k)
			wantLess(t, append(nums(12), a...), append(nums(12), b...), i < k)
			wantLess(t, append(a, Num(9)), append(b, Num(8)), i < k)
		}
		wantLess(t, nil, a, true)
		wantLess(t, a, nil, false)
		wantLess(t, a, append(a, api.Part{}), true)
		wantLess(t, append(a, api.Part{}), a, false)
	}
}

func TestLessOfLongLists(t *testing.T) {
	a, b := nums(5000), nums(5000)
	wantLess(t, a, b, false)
	wantLess(t, a[:4999], b, true)
	wantLess(t, a, b[:4999], false)
	b[4999] = Word(chars(100000, 'a'))
	wantLess(t, a, b, true)
	wantLess(t, b, a, false)
	a[0] = Word("")
	wantLess(t, a, b, false)
}

func TestLessOfDrawnLists(t *testing.T) {
	r := rand.New(rand.NewSource(3))
	for range 20000 {
		a := drawList(r, 5)
		b := drawNear(r, a, 5)
		if r.Intn(4) == 0 && len(b) > 0 {
			p := &b[r.Intn(len(b))]
			p.Kind, p.Int = uint8(r.Intn(4)), int64(r.Intn(3)-1)
		}
		wantLess(t, a, b, modelLess(a, b))
		wantLess(t, b, a, modelLess(b, a))
	}
}

func TestAfter(t *testing.T) {
	for _, c := range []struct {
		key, want string
		is        bool
	}{
		{"", "", false},
		{"\xff", "", false},
		{"\xff\xff", "", false},
		{chars(1000, 255), "", false},
		{"\x00", "\x01", true},
		{"\x00\xff", "\x01", true},
		{"a", "b", true},
		{"a\x00", "a\x01", true},
		{"a\xfe", "a\xff", true},
		{"a\xff", "b", true},
		{"a\xff\xff", "b", true},
		{"a\xfe\xff", "a\xff", true},
		{"\xfe", "\xff", true},
		{"\xfe\xff", "\xff", true},
		{"\xff\x00", "\xff\x01", true},
		{"\xff\xfe\xff", "\xff\xff", true},
		{"a\xffb", "a\xffc", true},
		{chars(1000, 'a') + "\xff", chars(999, 'a') + "b", true},
		{chars(1000, 255) + "a", chars(1000, 255) + "b", true},
		{"ab" + chars(1000, 255), "ac", true},
	} {
		wantAfter(t, c.key, c.want, c.is)
	}
}

func TestAfterOfEachShortText(t *testing.T) {
	for _, key := range texts(edges, 4) {
		want, is := modelAfter(key)
		wantAfter(t, key, want, is)
	}
	for a := range 256 {
		for b := range 256 {
			key := string([]byte{byte(a), byte(b)})
			want, is := modelAfter(key)
			wantAfter(t, key, want, is)
		}
	}
}

// Of all short texts those that begin with key stand ahead of After of it, and no other one stands between.
func TestAfterByDefinition(t *testing.T) {
	all := texts("\x00a\xfe\xff", 5)
	for _, key := range texts("\x00a\xfe\xff", 3) {
		after, is := After(key)
		for _, s := range all {
			begins := strings.HasPrefix(s, key)
			if between := s >= key && (!is || s < after); begins != between {
				t.Errorf("After(%q) = %q, %t: %q", key, after, is, s)
			}
		}
	}
}

func TestNumAndWord(t *testing.T) {
	for _, n := range []int64{math.MinInt64, -1, 0, 1, 300, math.MaxInt64} {
		if got := Num(n); got != (api.Part{Kind: api.PartInt, Int: n}) {
			t.Errorf("Num(%d) = %v", n, got)
		}
	}
	for _, s := range []string{"", "\x00", "a", "\xff\x00\x01", chars(1<<20, 0)} {
		if got := Word(s); got != (api.Part{Kind: api.PartText, Text: s}) {
			t.Errorf("Word of %d bytes = %v", len(s), got)
		}
	}
}

func TestOnlyRead(t *testing.T) {
	mark := api.Part{Kind: 170, Int: 170, Text: "spare"}
	for _, l := range [][]api.Part{nil, nums(8), nums(9), list(Word("a\x00"), Num(-1)), list(Word(chars(300, 'a'))), {{Kind: 3, Int: 4, Text: "b"}, Num(1)}} {
		whole := append(append([]api.Part{}, l...), mark, mark, mark)
		before := slices.Clone(whole)
		Make(whole[:len(l)])
		Less(whole[:len(l)], whole[:len(l)])
		Less(whole[:len(l)], nums(2))
		Less(nums(2), whole[:len(l)])
		if !slices.Equal(whole, before) {
			t.Errorf("%v became %v", before, whole)
		}
	}
}

func TestNewMemory(t *testing.T) {
	l := list(Word("a\x00b"), Num(7), Word("c"))
	key, _ := Make(l)
	first, _ := Cut(key)
	second, _ := Cut(key)
	for i := range first[:cap(first)] {
		first[:cap(first)][i] = api.Part{Kind: 9, Int: 9, Text: "spoilt"}
	}
	if !slices.Equal(second, l) {
		t.Errorf("the second answer became %v", second)
	}
	wantCut(t, key, l, api.OK)
	l[0] = Word("other")
	if key != "\x02a\x00\xffb\x00\x01\x01\x80\x00\x00\x00\x00\x00\x00\x07\x02c\x00\x01" {
		t.Errorf("the key became %q", key)
	}
}

// What follows: Cut of Make tells the parts, and nothing but Make's answers is cut.
func TestThereAndBack(t *testing.T) {
	r := rand.New(rand.NewSource(4))
	made := 0
	for i := range 20000 {
		l := drawList(r, []int{3, 20, 60, 260}[i%4])
		want, we := modelMake(l)
		wantMake(t, l, want, we)
		if we != api.OK {
			continue
		}
		made++
		wantCut(t, want, l, api.OK)
	}
	if made < 10000 {
		t.Errorf("only %d could be made", made)
	}
}

// Of two lists one stands ahead just if its key does, and the key of a beginning begins the key.
func TestOrderOfKeys(t *testing.T) {
	r := rand.New(rand.NewSource(5))
	ahead := 0
	for range 20000 {
		a := drawList(r, 6)
		b := drawNear(r, a, 6)
		x, e := Make(a)
		y, f := Make(b)
		if e != api.OK || f != api.OK {
			continue
		}
		if Less(a, b) != aheadText(x, y) || Less(b, a) != aheadText(y, x) {
			t.Errorf("%v and %v: their keys stand otherwise", a, b)
		}
		if Less(a, b) {
			ahead++
		}
		for n := range a {
			if s, e := Make(a[:n]); e != api.OK || !strings.HasPrefix(x, s) {
				t.Errorf("the key of %v does not begin that of %v", a[:n], a)
			}
		}
	}
	if ahead < 1000 {
		t.Errorf("only %d stood ahead", ahead)
	}
}

// All lists of at most two parts, out of few, one beside the other.
func TestOrderOfAllShortLists(t *testing.T) {
	parts := list(Num(math.MinInt64), Num(-1), Num(0), Num(math.MaxInt64))
	for _, s := range texts("\x00\x01\xff", 2) {
		parts = append(parts, Word(s))
	}
	all := [][]api.Part{nil}
	for _, p := range parts {
		all = append(all, list(p))
		for _, q := range parts {
			all = append(all, list(p, q))
		}
	}
	keys := make([]string, len(all))
	for i, l := range all {
		keys[i], _ = Make(l)
	}
	for i, a := range all {
		for k, b := range all {
			if got, want := Less(a, b), modelLess(a, b); got != want || aheadText(keys[i], keys[k]) != want {
				t.Errorf("%v and %v: Less is %t, the keys are %q and %q", a, b, got, keys[i], keys[k])
			}
		}
	}
}

// A key that begins with another one stands ahead of After of that; no key that does not begin so stands between.
func TestKeysBetween(t *testing.T) {
	r := rand.New(rand.NewSource(6))
	inside, outside := 0, 0
	for range 5000 {
		a := drawList(r, 4)
		x, e := Make(a)
		if e != api.OK || x == "" {
			continue
		}
		after, is := After(x)
		if !is {
			t.Fatalf("no text stands behind all that begin with %q", x)
		}
		for range 4 {
			y, e := Make(drawNear(r, a, 4))
			if e != api.OK {
				continue
			}
			begins := strings.HasPrefix(y, x)
			if between := !aheadText(y, x) && aheadText(y, after); begins != between {
				t.Errorf("%q, %q, After %q", x, y, after)
			}
			if begins {
				inside++
			} else {
				outside++
			}
		}
	}
	if inside < 500 || outside < 500 {
		t.Errorf("%d began so, %d did not", inside, outside)
	}
}
