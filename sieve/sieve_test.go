package sieve

import (
	"bytes"
	"math"
	"math/rand"
	"slices"
	"testing"

	"docket/api"
)

// short is a key as a message tells it.
func short(key string) string { return key[:min(len(key), 20)] }

func wantMarks(t *testing.T, key string, many int, want []int, e api.Errno) {
	t.Helper()
	if got, ge := Marks(key, many); !slices.Equal(got, want) || ge != e {
		t.Errorf("Marks(%q, %d) = %v, %d, want %v, %d", short(key), many, got, ge, want, e)
	}
}

func wantMake(t *testing.T, keys []string, many int, want []byte, e api.Errno) {
	t.Helper()
	if got, ge := Make(keys, many); !bytes.Equal(got, want) || ge != e {
		t.Errorf("Make(%d keys, %d) = %d bytes, %d, want %d bytes, %d, or others", len(keys), many, len(got), ge, len(want), e)
	}
}

func wantHas(t *testing.T, b []byte, key string, want bool, e api.Errno) {
	t.Helper()
	if got, ge := Has(b, key); got != want || ge != e {
		t.Errorf("Has(%d bytes, %q) = %t, %d, want %t, %d", len(b), short(key), got, ge, want, e)
	}
}

// wrongNumbers are below or above all that many and bits may be; as 32 bits, or fewer, some would look as if they might.
func wrongNumbers() []int {
	return []int{0, -1, -7, -8, -16, -65536, -1 << 32, math.MinInt, math.MinInt + 8, 65537, 65544, 1<<17 - 8, 1 << 31, 1 << 32, 1<<32 + 1, 1<<32 + 8, 1<<32 + 16, math.MaxInt, math.MaxInt - 7}
}

func TestExamples(t *testing.T) {
	wantMarks(t, "", 100, []int{0, 35, 74, 9}, api.OK)
	wantMarks(t, "a", 8, []int{3, 2, 1, 0}, api.OK)
	wantMake(t, nil, 16, []byte{0, 0}, api.OK)
	wantMake(t, []string{"a"}, 8, []byte{15}, api.OK)
	wantHas(t, []byte{15}, "a", true, api.OK)
	wantHas(t, []byte{0}, "a", false, api.OK)
	wantMake(t, nil, 12, nil, api.ErrArg)
	wantHas(t, nil, "a", false, api.ErrArg)
	wantMarks(t, chars(257, 'a'), 8, nil, api.ErrText)
}

// Worked out beside the program, by another one's sums.
func TestMarks(t *testing.T) {
	for _, c := range []struct {
		key  string
		many int
		want []int
	}{
		{"", 1, []int{0, 0, 0, 0}},
		{"", 2, []int{0, 1, 0, 1}},
		{"", 3, []int{0, 0, 2, 2}},
		{"", 65536, []int{0, 57115, 48694, 40273}},
		{"a", 100, []int{7, 74, 37, 0}},
		{"a", 65535, []int{42747, 27074, 11402, 61265}},
		{"a", 65536, []int{48707, 14034, 44897, 10224}},
		{"case", 1000, []int{380, 671, 258, 549}},
		{"123456789", 65535, []int{1307, 11197, 21088, 30978}},
		{"\x00", 999, []int{691, 43, 956, 870}},
		{"\x01", 999, []int{831, 727, 61, 956}},
		{"\xff", 999, []int{552, 214, 875, 100}},
		{"\x01\x01", 999, []int{894, 847, 238, 191}},
		{"a\x01", 999, []int{324, 457, 153, 286}},
		{chars(256, 'a'), 65535, []int{59094, 59733, 60372, 61012}},
		{chars(256, 0), 65535, []int{37614, 58368, 13586, 34339}},
		{chars(256, 255), 65535, []int{42698, 63561, 18889, 39752}},
		{chars(256, 1), 65521, []int{14862, 25302, 35742, 46407}},
	} {
		wantMarks(t, c.key, c.many, c.want, api.OK)
		if want, e := modelMarks(c.key, c.many); !slices.Equal(want, c.want) || e != api.OK {
			t.Errorf("the model's marks of %q among %d are %v", short(c.key), c.many, want)
		}
	}
}

func TestMarksOfEdgeKeys(t *testing.T) {
	for _, key := range edgeKeys() {
		for _, many := range []int{1, 2, 3, 4, 5, 7, 8, 9, 100, 255, 256, 257, 4096, 32767, 32768, 32769, 65521, 65528, 65534, 65535, 65536} {
			want, e := modelMarks(key, many)
			if e != api.OK {
				t.Fatalf("%q among %d: %d", short(key), many, e)
			}
			wantMarks(t, key, many, want, api.OK)
		}
	}
}

func TestMarksAmongEachMany(t *testing.T) {
	for many := 1; many <= 65536; many++ {
		for _, key := range []string{"", "a", "\x01"} {
			want, e := modelMarks(key, many)
			wantMarks(t, key, many, want, e)
		}
	}
}

func TestMarksRefuses(t *testing.T) {
	for _, many := range wrongNumbers() {
		for _, key := range []string{"", "a", chars(api.MaxKey, 255)} {
			wantMarks(t, key, many, nil, api.ErrArg)
		}
	}
	for _, key := range longKeys() {
		for _, many := range []int{1, 8, 12, 65535, 65536} {
			wantMarks(t, key, many, nil, api.ErrText)
		}
	}
}

// Of a key and a many that both may not be the key is told.
func TestMarksOrderOfErrors(t *testing.T) {
	for _, key := range longKeys() {
		for _, many := range wrongNumbers() {
			wantMarks(t, key, many, nil, api.ErrText)
		}
	}
}

// A sum that goes beyond 2^32 loses 2^32 before it is taken modulo many: among an odd many that is seen.
func TestMarksBeyondTheGreatestSum(t *testing.T) {
	var once, often, seen int
	for _, key := range numbered(500) {
		for _, many := range []int{3, 7, 99, 1000, 65535} {
			got, e := Marks(key, many)
			if e != api.OK || len(got) != 4 {
				t.Fatalf("Marks(%q, %d) = %v, %d", key, many, got, e)
			}
			h, g := sums(key)
			for i := range uint64(4) {
				whole := h + i*(g|1)
				if got[i] != int(whole%(1<<32)%uint64(many)) {
					t.Errorf("Marks(%q, %d) = %v: mark %d", key, many, got, i)
				}
				switch whole / (1 << 32) {
				case 0:
				case 1:
					once++
				default:
					often++
				}
				if int(whole%uint64(many)) != got[i] {
					seen++
				}
			}
		}
	}
	if once < 500 || often < 500 || seen < 1000 {
		t.Errorf("%d sums went beyond 2^32, %d beyond 2^33, and %d marks were others for it", once, often, seen)
	}
}

// The second sum is made odd if it is even, and stays if it is odd.
func TestMarksBySumsThatAreEven(t *testing.T) {
	even, odd := 0, 0
	for _, key := range numbered(500) {
		h, g := sums(key)
		if g%2 == 0 {
			even++
			g++
		} else {
			odd++
		}
		second := (h + g) % (1 << 32)
		got, e := Marks(key, 65536)
		if e != api.OK || len(got) != 4 || got[1] != int(second%65536) {
			t.Errorf("Marks(%q, 65536) = %v, %d, want %d at 1", key, got, e, second%65536)
		}
		two, _ := Marks(key, 2)
		if !slices.Equal(two, []int{int(h % 2), int((h + 1) % 2), int(h % 2), int((h + 1) % 2)}) {
			t.Errorf("Marks(%q, 2) = %v: the step is not odd", key, two)
		}
	}
	if even < 100 || odd < 100 {
		t.Errorf("%d sums were even, %d odd", even, odd)
	}
}

// Marks that are the same are all told, in their order.
func TestMarksThatAreTheSame(t *testing.T) {
	wantMarks(t, "key0", 3, []int{2, 0, 1, 0}, api.OK)
	wantMarks(t, "key0", 5, []int{4, 2, 0, 4}, api.OK)
	wantMarks(t, "key0", 6, []int{2, 3, 4, 3}, api.OK)
	wantMarks(t, "key2", 7, []int{6, 6, 6, 6}, api.OK)
	wantMarks(t, "key1", 9, []int{7, 7, 3, 8}, api.OK)
	wantMarks(t, "key1", 25, []int{21, 17, 17, 17}, api.OK)
	same := 0
	for _, key := range numbered(300) {
		for _, many := range []int{1, 2, 3, 5, 6, 7, 9, 10, 25, 99} {
			want, e := modelMarks(key, many)
			wantMarks(t, key, many, want, e)
			slices.Sort(want)
			if len(slices.Compact(want)) < 4 {
				same++
			}
		}
	}
	if same < 1000 {
		t.Errorf("only %d times were two marks the same", same)
	}
}

func TestMarksOfDrawnKeys(t *testing.T) {
	r := rand.New(rand.NewSource(1))
	for range 20000 {
		key, many := drawKey(r), 1+r.Intn(1<<(1+r.Intn(16)))
		want, e := modelMarks(key, many)
		if e != api.OK {
			t.Fatalf("%q among %d: %d", key, many, e)
		}
		wantMarks(t, key, many, want, api.OK)
	}
}

// Worked out beside the program, as those of TestMarks.
func TestMake(t *testing.T) {
	for _, c := range []struct {
		keys []string
		many int
		want []byte
	}{
		{nil, 8, []byte{0}},
		{[]string{}, 8, []byte{0}},
		{nil, 24, []byte{0, 0, 0}},
		{[]string{""}, 8, []byte{75}},
		{[]string{"a"}, 16, []byte{15, 0}},
		{[]string{"a", "a", "a"}, 16, []byte{15, 0}},
		{[]string{"a", "b"}, 16, []byte{79, 2}},
		{[]string{"", "\x01"}, 24, []byte{25, 96, 2}},
		{[]string{"a", "b", "c"}, 40, []byte{3, 200, 2, 25, 68}},
		{[]string{"case", "user", "role"}, 64, []byte{22, 2, 32, 129, 0, 132, 16, 12}},
	} {
		wantMake(t, c.keys, c.many, c.want, api.OK)
		if want, e := modelMake(c.keys, c.many); !bytes.Equal(want, c.want) || e != api.OK {
			t.Errorf("the model's filter of %q is %v", c.keys, want)
		}
	}
}

func TestMakeOfEachSize(t *testing.T) {
	keys := append(edgeKeys(), numbered(20)...)
	for _, many := range []int{8, 16, 24, 32, 40, 56, 64, 72, 1000, 4096, 32768, 65520, 65528, 65536} {
		wantMake(t, nil, many, make([]byte, many/8), api.OK)
		for _, key := range keys {
			want, e := modelMake([]string{key}, many)
			wantMake(t, []string{key}, many, want, e)
			if len(want) != many/8 || e != api.OK {
				t.Fatalf("one key in %d bits: %d bytes, %d", many, len(want), e)
			}
		}
		want, e := modelMake(keys, many)
		wantMake(t, keys, many, want, e)
	}
}

func TestMakeRefuses(t *testing.T) {
	wrong := append(wrongNumbers(), 1, 2, 4, 7, 9, 12, 15, 17, 20, 63, 65, 100, 32764, 65529, 65532, 65535)
	for _, many := range wrong {
		for _, keys := range [][]string{nil, {"a"}, edgeKeys()} {
			wantMake(t, keys, many, nil, api.ErrArg)
		}
	}
	for _, long := range longKeys() {
		for _, keys := range [][]string{{long}, {long, "a"}, {"a", long}, {"a", "", long, "b"}, append(numbered(api.MaxEntries-1), long)} {
			wantMake(t, keys, 8, nil, api.ErrText)
			wantMake(t, keys, 65536, nil, api.ErrText)
		}
	}
	for _, n := range []int{api.MaxEntries + 1, 2 * api.MaxEntries, 1 << 17} {
		wantMake(t, make([]string, n), 8, nil, api.ErrMany)
		wantMake(t, numbered(n), 65536, nil, api.ErrMany)
	}
}

// Too many keys are told first, then one that is too long, then the bits.
func TestMakeOrderOfErrors(t *testing.T) {
	long := chars(api.MaxKey+1, 'a')
	tooMany := append(numbered(api.MaxEntries), long)
	for _, many := range append(wrongNumbers(), 7, 12) {
		wantMake(t, make([]string, api.MaxEntries+1), many, nil, api.ErrMany)
		wantMake(t, tooMany, many, nil, api.ErrMany)
		wantMake(t, []string{long}, many, nil, api.ErrText)
		wantMake(t, []string{"a", long}, many, nil, api.ErrText)
	}
	wantMake(t, tooMany, 8, nil, api.ErrMany)
	wantMake(t, slices.Repeat([]string{long}, api.MaxEntries+1), 8, nil, api.ErrMany)
	wantMake(t, slices.Repeat([]string{long}, api.MaxEntries), 8, nil, api.ErrText)
}

func TestMakeOfMostKeys(t *testing.T) {
	keys := numbered(api.MaxEntries)
	for _, many := range []int{8, 4096, 65528, 65536} {
		want, e := modelMake(keys, many)
		wantMake(t, keys, many, want, e)
		b, e := Make(keys, many)
		if e != api.OK {
			t.Fatalf("%d keys, %d bits: %d", len(keys), many, e)
		}
		for _, key := range keys {
			wantHas(t, b, key, true, api.OK)
		}
	}
	longest := make([]string, api.MaxEntries)
	for i := range longest {
		longest[i] = chars(api.MaxKey-2, 'a') + string([]byte{byte(i), byte(i >> 8)})
	}
	want, e := modelMake(longest, 65536)
	wantMake(t, longest, 65536, want, e)
}

// Each key sets four bits: among a multiple of 8 no two of its marks are the same.
func TestMakeOfOneKeySetsFourBits(t *testing.T) {
	for _, key := range append(edgeKeys(), numbered(200)...) {
		for _, many := range []int{8, 24, 56, 1000, 65528} {
			b, e := Make([]string{key}, many)
			l, f := Marks(key, many)
			if e != api.OK || f != api.OK {
				t.Fatalf("%q, %d: %d, %d", short(key), many, e, f)
			}
			set := 0
			for n := range many {
				if bit(b, n) != slices.Contains(l, n) {
					t.Errorf("the filter of %q in %d bits: bit %d", short(key), many, n)
				}
				if bit(b, n) {
					set++
				}
			}
			if set != 4 {
				t.Errorf("the filter of %q in %d bits has %d", short(key), many, set)
			}
		}
	}
}

func TestHasRefuses(t *testing.T) {
	for _, n := range []int{0, 8193, 8194, 16384, 65536, 1 << 20} {
		for _, c := range []byte{0, 255} {
			wantHas(t, bytes.Repeat([]byte{c}, n), "a", false, api.ErrArg)
			wantHas(t, bytes.Repeat([]byte{c}, n), "", false, api.ErrArg)
		}
	}
	wantHas(t, nil, "", false, api.ErrArg)
	wantHas(t, []byte{}, "a", false, api.ErrArg)
	wantHas(t, make([]byte, 0, 8), "a", false, api.ErrArg)
	for _, key := range longKeys() {
		for _, n := range []int{1, 2, 8191, 8192} {
			wantHas(t, make([]byte, n), key, false, api.ErrText)
			wantHas(t, bytes.Repeat([]byte{255}, n), key, false, api.ErrText)
		}
	}
}

// Of a filter and a key that both may not be the filter is told.
func TestHasOrderOfErrors(t *testing.T) {
	for _, key := range longKeys() {
		wantHas(t, nil, key, false, api.ErrArg)
		wantHas(t, []byte{}, key, false, api.ErrArg)
		wantHas(t, make([]byte, 8193), key, false, api.ErrArg)
		wantHas(t, bytes.Repeat([]byte{255}, 8193), key, false, api.ErrArg)
	}
}

// Each filter of one byte, held against the four marks.
func TestHasOfEachByte(t *testing.T) {
	for c := range 256 {
		b := []byte{byte(c)}
		for _, key := range append(edgeKeys(), numbered(30)...) {
			want, e := modelHas(b, key)
			wantHas(t, b, key, want, e)
		}
	}
}

// A filter that lacks one bit alone lacks the keys of which that is a mark; one that has one bit alone has no key, since none has but one mark.
func TestHasOfOneBit(t *testing.T) {
	for _, many := range []int{8, 16, 24, 72, 200} {
		for n := range many {
			one := filter(many, func(i int) bool { return i == n })
			rest := filter(many, func(i int) bool { return i != n })
			for _, key := range append(numbered(30), "", "a", "\x01", chars(api.MaxKey, 255)) {
				l, _ := modelMarks(key, many)
				wantHas(t, one, key, false, api.OK)
				wantHas(t, rest, key, !slices.Contains(l, n), api.OK)
			}
		}
	}
}

// Just the four marks are looked at: without one of them there is no key, and what stands beside them does not matter.
func TestHasLooksAtEachMark(t *testing.T) {
	for _, many := range []int{8, 16, 64, 65528, 65536} {
		for _, key := range append(numbered(20), "", "a", "a\x01", chars(api.MaxKey, 0)) {
			l, _ := modelMarks(key, many)
			just := filter(many, func(n int) bool { return slices.Contains(l, n) })
			wantHas(t, just, key, true, api.OK)
			for _, left := range l {
				without := slices.Clone(just)
				without[left/8] -= 1 << (left % 8)
				wantHas(t, without, key, false, api.OK)
				all := bytes.Repeat([]byte{255}, many/8)
				all[left/8] -= 1 << (left % 8)
				wantHas(t, all, key, false, api.OK)
			}
		}
	}
}

func TestHasOfDrawnFilters(t *testing.T) {
	r := rand.New(rand.NewSource(2))
	yes, no := 0, 0
	for range 5000 {
		b := make([]byte, drawSize(r)/8)
		r.Read(b)
		for i := range b {
			if r.Intn(2) == 0 {
				b[i] = 255
			}
		}
		for range 4 {
			key := drawKey(r)
			want, e := modelHas(b, key)
			wantHas(t, b, key, want, e)
			if want {
				yes++
			} else {
				no++
			}
		}
	}
	if yes < 1000 || no < 1000 {
		t.Errorf("%d were there, %d not", yes, no)
	}
}

func TestOnlyRead(t *testing.T) {
	long := chars(api.MaxKey+1, 'a')
	for _, keys := range [][]string{nil, {"b", "a", ""}, {"b", long, "a"}, numbered(api.MaxEntries), numbered(api.MaxEntries + 1)} {
		for _, many := range []int{8, 12, 65536} {
			whole := append(slices.Clone(keys), "spare", "spare")
			before := slices.Clone(whole)
			Make(whole[:len(keys)], many)
			if !slices.Equal(whole, before) {
				t.Errorf("Make changed its %d keys, or what is behind them", len(keys))
			}
		}
	}
	for _, n := range []int{0, 1, 3, 8192, 8193} {
		for _, c := range []byte{0, 170, 255} {
			whole := bytes.Repeat([]byte{c}, n+8)
			before := slices.Clone(whole)
			for _, key := range []string{"", "a", "b", long} {
				Has(whole[:n], key)
			}
			if !bytes.Equal(whole, before) {
				t.Errorf("Has changed its filter of %d bytes, or what is behind it", n)
			}
		}
	}
}

// spoil writes over an answer, its spare room too.
func spoil[T any](l []T, v T) {
	for i := range l[:cap(l)] {
		l[:cap(l)][i] = v
	}
}

func TestNewMemory(t *testing.T) {
	keys := []string{"a", "b"}
	first, _ := Make(keys, 16)
	second, _ := Make(keys, 16)
	none, _ := Make(nil, 16)
	spoil(first, 0)
	if !bytes.Equal(second, []byte{79, 2}) {
		t.Errorf("the second filter became %v", second)
	}
	spoil(none, 255)
	wantMake(t, nil, 16, []byte{0, 0}, api.OK)
	wantMake(t, keys, 16, []byte{79, 2}, api.OK)
	keys[0], keys[1] = "other", "keys"
	if !bytes.Equal(second, []byte{79, 2}) {
		t.Errorf("the filter became %v with its keys", second)
	}
	marks, _ := Marks("", 100)
	again, _ := Marks("", 100)
	spoil(marks, -1)
	if !slices.Equal(again, []int{0, 35, 74, 9}) {
		t.Errorf("the second marks became %v", again)
	}
	wantMarks(t, "", 100, []int{0, 35, 74, 9}, api.OK)
}

// What follows: a filter has each of its keys, whatever else it was made of.
func TestFilterHasItsKeys(t *testing.T) {
	r := rand.New(rand.NewSource(3))
	for i := range 1500 {
		keys, many := drawKeys(r, []int{1, 5, 60, 400}[i%4]), drawSize(r)
		b, e := Make(keys, many)
		if e != api.OK {
			t.Fatalf("%d keys, %d bits: %d", len(keys), many, e)
		}
		want, e := modelMake(keys, many)
		wantMake(t, keys, many, want, e)
		for _, key := range keys {
			wantHas(t, b, key, true, api.OK)
		}
	}
}

// A no is told too: of keys that a wide filter was not made of few are taken to be there.
func TestFilterSaysNo(t *testing.T) {
	keys := numbered(2000)
	b, e := Make(keys[:1000], 16000)
	if e != api.OK {
		t.Fatal(e)
	}
	wrong := 0
	for _, key := range keys[1000:] {
		if is, e := Has(b, key); is && e == api.OK {
			wrong++
		}
	}
	if wrong > 50 {
		t.Errorf("%d of 1000 keys that were not there were taken to be", wrong)
	}
}

// subset tells whether b has all bits of a, and both have as many bytes.
func subset(a, b []byte) bool {
	for i := range a {
		if a[i]&b[i] != a[i] {
			return false
		}
	}
	return len(a) == len(b)
}

func TestMoreKeysMoreBits(t *testing.T) {
	r := rand.New(rand.NewSource(4))
	more := 0
	for range 1000 {
		keys, many := drawKeys(r, 60), drawSize(r)
		whole, e := Make(keys, many)
		if e != api.OK {
			t.Fatal(e)
		}
		var few []string
		for _, key := range keys {
			if r.Intn(2) == 0 {
				few = append(few, key)
			}
		}
		for _, part := range [][]string{few, keys[:r.Intn(len(keys)+1)], nil} {
			b, e := Make(part, many)
			if e != api.OK || !subset(b, whole) {
				t.Errorf("the filter of %d keys has not all bits of that of %d of them: %d", len(keys), len(part), e)
			}
			if !bytes.Equal(b, whole) {
				more++
			}
		}
	}
	if more < 1000 {
		t.Errorf("only %d filters had more bits", more)
	}
}

func TestOrderOfKeysDoesNotMatter(t *testing.T) {
	r := rand.New(rand.NewSource(5))
	for range 1000 {
		keys, many := drawKeys(r, 60), drawSize(r)
		want, e := Make(keys, many)
		if e != api.OK {
			t.Fatal(e)
		}
		other := slices.Clone(keys)
		r.Shuffle(len(other), func(i, k int) { other[i], other[k] = other[k], other[i] })
		wantMake(t, other, many, want, api.OK)
		slices.Sort(other)
		wantMake(t, other, many, want, api.OK)
		slices.Reverse(other)
		wantMake(t, other, many, want, api.OK)
		// Nor does a key that comes once more.
		wantMake(t, append(other, keys...), many, want, api.OK)
	}
}

func TestFiltersWithoutBitsAndWithAll(t *testing.T) {
	r := rand.New(rand.NewSource(6))
	check := func(n int, keys []string) {
		none, all := make([]byte, n), bytes.Repeat([]byte{255}, n)
		for _, key := range keys {
			wantHas(t, none, key, false, api.OK)
			wantHas(t, all, key, true, api.OK)
		}
	}
	for _, n := range []int{1, 2, 3, 8, 1000, 8191, 8192} {
		check(n, edgeKeys())
	}
	for n := 1; n <= 8192; n++ {
		check(n, []string{"", "a", drawKey(r)})
	}
}
