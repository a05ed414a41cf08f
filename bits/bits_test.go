package bits

import (
	"bytes"
	"hash/crc32"
	"math/rand"
	"strings"
	"testing"

	"docket/api"
)

const top = 1<<64 - 1

// numbers has those that the chapter names, each power of two with its neighbours, and some others.
func numbers() []uint64 {
	ns := []uint64{0, 1, 127, 128, 258, 300, 16383, 16384, 72623859790382856, top - 1, top}
	for k := range 64 {
		p := uint64(1) << k
		ns = append(ns, p-1, p, p+1)
	}
	r := rand.New(rand.NewSource(1))
	for range 500 {
		ns = append(ns, r.Uint64()>>r.Intn(64))
	}
	return ns
}

// times is the byte c, n times, and then the bytes of end.
func times(n int, c byte, end ...byte) []byte {
	return append(bytes.Repeat([]byte{c}, n), end...)
}

// with is a list whose spare room is filled, so that a write into it is seen.
func with(b []byte) (list, whole []byte) {
	whole = append(append([]byte{}, b...), 170, 170, 170, 170, 170, 170, 170, 170, 170, 170, 170, 170)
	return whole[:len(b)], whole
}

func TestPut(t *testing.T) {
	for _, c := range []struct {
		n    uint64
		want []byte
	}{
		{0, times(8, 0)},
		{127, times(1, 127, 0, 0, 0, 0, 0, 0, 0)},
		{128, times(1, 128, 0, 0, 0, 0, 0, 0, 0)},
		{258, []byte{2, 1, 0, 0, 0, 0, 0, 0}},
		{0x0102030405060708, []byte{8, 7, 6, 5, 4, 3, 2, 1}},
		{1 << 63, times(7, 0, 128)},
		{top, times(8, 255)},
	} {
		if got := Put(c.n); !bytes.Equal(got, c.want) {
			t.Errorf("Put(%d) = %v, want %v", c.n, got, c.want)
		}
		if n, e := Get(c.want); n != c.n || e != api.OK {
			t.Errorf("Get(%v) = %d, %d, want %d", c.want, n, e, c.n)
		}
	}
}

func TestPutByDefinition(t *testing.T) {
	for _, n := range numbers() {
		b := Put(n)
		if len(b) != 8 {
			t.Fatalf("Put(%d) has %d bytes", n, len(b))
		}
		for i := range 64 {
			if b[i/8]>>(i%8)&1 != byte(n>>i&1) {
				t.Errorf("Put(%d): bit %d", n, i)
			}
		}
	}
}

func TestGetRefuses(t *testing.T) {
	if n, e := Get(nil); n != 0 || e != api.ErrBad {
		t.Errorf("Get(nil) = %d, %d", n, e)
	}
	for k := range 20 {
		if k == 8 {
			continue
		}
		if n, e := Get(times(k, 255)); n != 0 || e != api.ErrBad {
			t.Errorf("Get of %d bytes = %d, %d", k, n, e)
		}
	}
}

func TestSmall(t *testing.T) {
	for _, c := range []struct {
		n    uint64
		want []byte
	}{
		{0, []byte{0}},
		{1, []byte{1}},
		{127, []byte{127}},
		{128, []byte{128, 1}},
		{258, []byte{130, 2}},
		{300, []byte{172, 2}},
		{16383, []byte{255, 127}},
		{16384, []byte{128, 128, 1}},
		{1<<63 - 1, times(8, 255, 127)},
		{1 << 63, times(9, 128, 1)},
		{top, times(9, 255, 1)},
	} {
		if got := Small(c.n); !bytes.Equal(got, c.want) {
			t.Errorf("Small(%d) = %v, want %v", c.n, got, c.want)
		}
		if n, k, e := Read(c.want); n != c.n || k != len(c.want) || e != api.OK {
			t.Errorf("Read(%v) = %d, %d, %d, want %d", c.want, n, k, e, c.n)
		}
	}
}

func TestSmallByDefinition(t *testing.T) {
	for _, n := range numbers() {
		b := Small(n)
		left := n
		for i, c := range b {
			if uint64(c&127) != left&127 || (c >= 128) != (i < len(b)-1) {
				t.Errorf("Small(%d) = %v: byte %d", n, b, i)
			}
			left >>= 7
		}
		if left != 0 || len(b) > 1 && b[len(b)-1] == 0 {
			t.Errorf("Small(%d) = %v: not as few as can be, or too few", n, b)
		}
	}
}

func TestSmallLength(t *testing.T) {
	for k := 1; k <= 9; k++ {
		if got := len(Small(1<<(7*k) - 1)); got != k {
			t.Errorf("2^%d - 1 has %d small bytes, want %d", 7*k, got, k)
		}
		if got := len(Small(1 << (7 * k))); got != k+1 {
			t.Errorf("2^%d has %d small bytes, want %d", 7*k, got, k+1)
		}
	}
	for _, n := range numbers() {
		for k := 1; k <= 9; k++ {
			if n < 1<<(7*k) && len(Small(n)) > k {
				t.Errorf("%d has %d small bytes", n, len(Small(n)))
			}
		}
	}
}

func TestReadRefuses(t *testing.T) {
	for _, b := range [][]byte{
		nil,
		{},
		{128},
		{255},
		{128, 128},
		{128, 0},
		{255, 0},
		{128, 0, 1},
		{128, 128, 0},
		times(8, 255),
		times(9, 255),
		times(9, 255, 0),
		times(9, 128, 0),
		times(9, 255, 2),
		times(9, 128, 2),
		times(9, 255, 127),
		times(9, 255, 128),
		times(9, 255, 129),
		times(9, 255, 129, 0),
		times(9, 128, 129, 1),
		times(10, 128, 1),
		times(11, 255, 1),
		times(100, 128, 1),
		times(1000, 255),
	} {
		if n, k, e := Read(b); n != 0 || k != 0 || e != api.ErrBad {
			t.Errorf("Read(%v) = %d, %d, %d", b, n, k, e)
		}
	}
}

func TestReadLooksAtTheHeadAlone(t *testing.T) {
	if n, k, e := Read([]byte{128, 1, 7}); n != 128 || k != 2 || e != api.OK {
		t.Errorf("Read(128 1 7) = %d, %d, %d", n, k, e)
	}
	if n, k, e := Read([]byte{0, 0, 0}); n != 0 || k != 1 || e != api.OK {
		t.Errorf("Read(0 0 0) = %d, %d, %d", n, k, e)
	}
	if n, k, e := Read(times(9, 255, 1, 255, 255)); n != top || k != 10 || e != api.OK {
		t.Errorf("Read(nine times 255, 1, 255 255) = %d, %d, %d", n, k, e)
	}
}

// All lists of up to two bytes: Read takes those that begin with what Small writes, and no others.
func TestReadTakesWhatSmallWritesAlone(t *testing.T) {
	written := map[string]uint64{}
	for n := range uint64(1 << 14) {
		written[string(Small(n))] = n
	}
	check := func(b []byte) {
		want, size, e := uint64(0), 0, api.ErrBad
		for k := range len(b) + 1 {
			if n, ok := written[string(b[:k])]; ok {
				want, size, e = n, k, api.OK
			}
		}
		if n, k, got := Read(b); n != want || k != size || got != e {
			t.Errorf("Read(%v) = %d, %d, %d, want %d, %d, %d", b, n, k, got, want, size, e)
		}
	}
	check(nil)
	for a := range 256 {
		check([]byte{byte(a)})
		for b := range 256 {
			check([]byte{byte(a), byte(b)})
		}
	}
}

func TestText(t *testing.T) {
	for _, c := range []struct {
		s    string
		want []byte
	}{
		{"", []byte{0}},
		{"ab", []byte{2, 'a', 'b'}},
		{"\x00", []byte{1, 0}},
		{"\xff\xfe", []byte{2, 255, 254}},
		{strings.Repeat("x", 127), times(1, 127, times(127, 'x')...)},
		{strings.Repeat("x", 128), append([]byte{128, 1}, times(128, 'x')...)},
		{strings.Repeat("x", 16384), append([]byte{128, 128, 1}, times(16384, 'x')...)},
	} {
		if got := Text(c.s); !bytes.Equal(got, c.want) {
			t.Errorf("Text of %d bytes = %v, want %v", len(c.s), got, c.want)
		}
		if s, rest, e := Cut(c.want); s != c.s || len(rest) != 0 || e != api.OK {
			t.Errorf("Cut of Text of %d bytes = %q, %v, %d", len(c.s), s, rest, e)
		}
	}
}

func TestCut(t *testing.T) {
	for _, c := range []struct {
		b    []byte
		s    string
		rest string
	}{
		{[]byte{0}, "", ""},
		{[]byte{0, 0, 9}, "", "\x00\x09"},
		{[]byte{2, 'a', 'b'}, "ab", ""},
		{[]byte{2, 'a', 'b', 'c'}, "ab", "c"},
		{[]byte{1, 200, 128, 0}, "\xc8", "\x80\x00"},
	} {
		if s, rest, e := Cut(c.b); s != c.s || string(rest) != c.rest || e != api.OK {
			t.Errorf("Cut(%v) = %q, %q, %d", c.b, s, rest, e)
		}
	}
}

func TestCutRefuses(t *testing.T) {
	for _, b := range [][]byte{
		nil,
		{},
		{1},
		{3, 'a', 'b'},
		{127, 'a'},
		{128},
		{128, 0},
		{130, 0, 'a', 'b'},
		append([]byte{128, 1}, times(127, 'x')...),
		times(8, 255, 127, 'a'),
		times(9, 128, 1, 'a'),
		times(9, 255, 1, 'a'),
		times(9, 255, 2, 'a'),
		times(9, 255),
	} {
		if s, rest, e := Cut(b); s != "" || len(rest) != 0 || e != api.ErrBad {
			t.Errorf("Cut(%v) = %q, %v, %d", b, s, rest, e)
		}
	}
}

func TestSum(t *testing.T) {
	for _, c := range []struct {
		s    string
		want uint32
	}{
		{"", 0},
		{"123456789", 3421780262},
		{"a", 3904355907},
		{"\x00", 3523407757},
		{"\xff", 4278190080},
	} {
		if got := Sum([]byte(c.s)); got != c.want {
			t.Errorf("Sum(%q) = %d, want %d", c.s, got, c.want)
		}
	}
	if got := Sum(nil); got != 0 {
		t.Errorf("Sum(nil) = %d", got)
	}
	r := rand.New(rand.NewSource(2))
	for k := range 600 {
		b := make([]byte, k)
		r.Read(b)
		if got, want := Sum(b), crc32.ChecksumIEEE(b); got != want {
			t.Errorf("Sum(%v) = %d, want %d", b, got, want)
		}
	}
}

func TestSumTellsOneByteApart(t *testing.T) {
	for _, k := range []int{1, 2, 9, 128} {
		b := make([]byte, k)
		rand.New(rand.NewSource(int64(k))).Read(b)
		sum := Sum(b)
		for i, was := range b {
			for c := range 256 {
				b[i] = byte(c)
				if (Sum(b) == sum) != (byte(c) == was) {
					t.Errorf("%d bytes: byte %d as %d instead of %d", k, i, c, was)
				}
			}
			b[i] = was
		}
	}
}

func TestSumTellsOneBitApart(t *testing.T) {
	for _, k := range []int{1, 3, 128, 512} {
		b := make([]byte, k)
		rand.New(rand.NewSource(int64(k))).Read(b)
		sum := Sum(b)
		for i := range 8 * k {
			b[i/8] ^= 1 << (i % 8)
			if Sum(b) == sum {
				t.Errorf("%d bytes: bit %d turned, and the same sum", k, i)
			}
			b[i/8] ^= 1 << (i % 8)
		}
	}
}

func TestSumOfThree(t *testing.T) {
	r := rand.New(rand.NewSource(3))
	for k := range 200 {
		a, b, c, all := make([]byte, k), make([]byte, k), make([]byte, k), make([]byte, k)
		r.Read(a)
		r.Read(b)
		r.Read(c)
		for i := range all {
			all[i] = a[i] ^ b[i] ^ c[i]
		}
		if Sum(all) != Sum(a)^Sum(b)^Sum(c) {
			t.Errorf("three lists of %d bytes", k)
		}
	}
}

func TestThereAndBack(t *testing.T) {
	behind := [][]byte{nil, {0}, {1}, {127}, {128}, {255}, times(12, 255), times(12, 128, 0)}
	for _, n := range numbers() {
		if got, e := Get(Put(n)); got != n || e != api.OK {
			t.Errorf("Get(Put(%d)) = %d, %d", n, got, e)
		}
		for _, x := range behind {
			b := Small(n)
			if got, k, e := Read(append(b, x...)); got != n || k != len(b) || e != api.OK {
				t.Errorf("Read(Small(%d) and %v) = %d, %d, %d", n, x, got, k, e)
			}
		}
	}
	for _, k := range []int{0, 1, 2, 126, 127, 128, 129, 255, 256, 16383, 16384, 70000} {
		b := make([]byte, k)
		rand.New(rand.NewSource(int64(k))).Read(b)
		for _, x := range behind {
			s, rest, e := Cut(append(Text(string(b)), x...))
			if s != string(b) || !bytes.Equal(rest, x) || e != api.OK {
				t.Errorf("Cut(Text of %d bytes and %v): %v, %d", k, x, rest, e)
			}
		}
	}
}

func TestArgumentsAreOnlyRead(t *testing.T) {
	for _, b := range [][]byte{
		nil,
		{0},
		{128, 0},
		{2, 'a', 'b', 'c'},
		{3, 'a', 'b'},
		{8, 7, 6, 5, 4, 3, 2, 1},
		times(9, 255, 1, 7),
		times(9, 255, 2),
		times(40, 33),
	} {
		list, whole := with(b)
		was := append([]byte{}, whole...)
		Get(list)
		Read(list)
		Cut(list)
		Sum(list)
		if !bytes.Equal(whole, was) {
			t.Errorf("%v, or its spare room, has changed: %v", b, whole)
		}
	}
}

// spoil writes over an answer and its spare room.
func spoil(b []byte) {
	b = b[:cap(b)]
	for i := range b {
		b[i] ^= 85
	}
}

func TestAnswersAreNewMemory(t *testing.T) {
	for _, n := range []uint64{0, 127, 128, 258, top} {
		put, small := Put(n), Small(n)
		wasPut, wasSmall := append([]byte{}, put...), append([]byte{}, small...)
		spoil(Put(n))
		spoil(Small(n))
		if !bytes.Equal(put, wasPut) || !bytes.Equal(small, wasSmall) {
			t.Errorf("two answers for %d share memory", n)
		}
		if !bytes.Equal(Put(n), wasPut) || !bytes.Equal(Small(n), wasSmall) {
			t.Errorf("an answer for %d was written over", n)
		}
	}
	s := "a text"
	spoil(Text(s))
	if s != "a text" || !bytes.Equal(Text(s), []byte("\x06a text")) {
		t.Errorf("Text shares memory: %q", s)
	}
}

func TestCutSharesNothing(t *testing.T) {
	for _, b := range [][]byte{{2, 'a', 'b', 'c', 'd'}, {0, 'a'}, {1, 'a'}, {0}} {
		list, whole := with(b)
		was := append([]byte{}, whole...)
		s, rest, e := Cut(list)
		if e != api.OK {
			t.Fatal(b, e)
		}
		text, left := strings.Clone(s), append([]byte{}, rest...)
		spoil(append(rest, 1, 2, 3))
		spoil(rest)
		if !bytes.Equal(whole, was) {
			t.Errorf("Cut(%v): what is behind shares memory with the argument", b)
		}
		s, rest, _ = Cut(list)
		spoil(whole)
		if s != text || !bytes.Equal(rest, left) {
			t.Errorf("Cut(%v): an answer changes with the argument", b)
		}
	}
}

// None of the calls panics, and what they refuse comes with zero values, whatever the bytes are.
func TestAnyBytes(t *testing.T) {
	r := rand.New(rand.NewSource(4))
	for range 20000 {
		b := make([]byte, r.Intn(24))
		r.Read(b)
		if r.Intn(2) == 0 {
			for i := range r.Intn(len(b) + 1) {
				b[i] |= 128
			}
		}
		if n, e := Get(b); e == api.OK && !bytes.Equal(Put(n), b) || e != api.OK && (n != 0 || e != api.ErrBad) {
			t.Errorf("Get(%v) = %d, %d", b, n, e)
		}
		if n, k, e := Read(b); e == api.OK && !bytes.Equal(Small(n), b[:k]) || e != api.OK && (n != 0 || k != 0 || e != api.ErrBad) {
			t.Errorf("Read(%v) = %d, %d, %d", b, n, k, e)
		}
		if s, rest, e := Cut(b); e == api.OK && !bytes.Equal(append(Text(s), rest...), b) || e != api.OK && (s != "" || len(rest) != 0 || e != api.ErrBad) {
			t.Errorf("Cut(%v) = %q, %v, %d", b, s, rest, e)
		}
	}
}
