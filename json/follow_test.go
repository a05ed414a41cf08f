package json

import (
	"sort"
	"testing"
	"unsafe"

	"docket/api"
)

// roomy is a copy of v with spare room behind each of its lists, in which something stands.
func roomy(v api.Json) api.Json {
	var items []api.Json
	for _, x := range v.Items {
		items = append(items, roomy(x))
	}
	n := len(v.Names)
	v.Items = append(items, api.Json{Kind: 77, Text: "spare"}, api.Json{Kind: 78})[:len(items)]
	v.Names = append(append([]string(nil), v.Names...), "spare", "room")[:n]
	return v
}

// all tells a value with the spare room of each of its lists.
func all(v api.Json) string {
	v.Names = v.Names[:cap(v.Names)]
	items := v.Items[:cap(v.Items)]
	v.Items = nil
	s := shown(v)
	for _, x := range items {
		s += all(x)
	}
	return s
}

// spoil writes over all lists of a value, their spare room too.
func spoil(v api.Json) {
	items, names := v.Items[:cap(v.Items)], v.Names[:cap(v.Names)]
	for i := range items {
		spoil(items[i])
		items[i] = api.Json{Kind: 99, Text: "spoilt"}
	}
	for i := range names {
		names[i] = "spoilt"
	}
}

// span is the memory of a list.
type span struct{ from, to uintptr }

// spans are those of all lists within a value, with their spare room.
func spans(v api.Json) []span {
	var l []span
	if n := cap(v.Items); n > 0 {
		from := uintptr(unsafe.Pointer(&v.Items[:1][0]))
		l = append(l, span{from, from + uintptr(n)*unsafe.Sizeof(v)})
	}
	if n := cap(v.Names); n > 0 {
		from := uintptr(unsafe.Pointer(&v.Names[:1][0]))
		l = append(l, span{from, from + uintptr(n)*unsafe.Sizeof("")})
	}
	for _, x := range v.Items[:cap(v.Items)] {
		l = append(l, spans(x)...)
	}
	return l
}

// wantNew asks that no two lists of an answer share memory, nor one with what was handed in.
func wantNew(t *testing.T, answer api.Json, handed ...api.Json) {
	t.Helper()
	own := spans(answer)
	sort.Slice(own, func(i, j int) bool { return own[i].from < own[j].from })
	for i := 1; i < len(own); i++ {
		if own[i].from < own[i-1].to {
			t.Fatalf("two lists of %.200s share memory", shown(answer))
		}
	}
	for _, h := range handed {
		for _, a := range spans(h) {
			for _, b := range own {
				if a.from < b.to && b.from < a.to {
					t.Fatalf("a list of %.200s is one that was handed in", shown(answer))
				}
			}
		}
	}
}

func TestOnlyRead(t *testing.T) {
	r := newDrawer(1)
	for range draws / 10 {
		v, x := roomy(r.value(4)), roomy(r.value(3))
		if r.Intn(2) == 0 {
			v = roomy(r.turned(v))
		}
		if r.Intn(3) == 0 {
			x = roomy(r.turned(x))
		}
		wasV, wasX := all(v), all(x)
		Check(v)
		Text(v)
		Same(v, x)
		Same(v, v)
		Rows(v.Items)
		for i := -1; i <= len(v.Items); i++ {
			At(v, i)
		}
		for _, name := range append([]string{"", "a", "\xff", "new"}, v.Names...) {
			Get(v, name)
			Put(v, name, x)
			Put(v, name, v)
		}
		if all(v) != wasV || all(x) != wasX {
			t.Fatalf("%s was written on", shown(v))
		}
	}
}

func TestNewMemory(t *testing.T) {
	r := newDrawer(2)
	for range draws / 10 {
		v, x := roomy(r.value(4)), roomy(r.value(3))
		was := deep(v)
		var answers, wants []api.Json
		keep := func(answer, want api.Json, handed ...api.Json) {
			t.Helper()
			wantNew(t, answer, handed...)
			answers, wants = append(answers, answer), append(wants, deep(want))
		}
		for i := range v.Items {
			if got, is := At(v, i); is {
				keep(got, v.Items[i], v)
			}
		}
		for i, name := range v.Names {
			got, _ := Get(v, name)
			keep(got, v.Items[i], v)
		}
		for _, name := range append([]string{"new"}, v.Names...) {
			for _, y := range []api.Json{x, v, {}} {
				if got, e := Put(v, name, y); e == api.OK {
					want, _ := modelPut(v, name, y)
					keep(got, want, v, y)
				}
			}
		}
		keep(Rows(v.Items), api.Json{Kind: 5, Items: v.Items}, v)
		keep(Rows([]api.Json{v, v, x}), list(v, v, x), v, x)
		// What is handed in is not kept, and no answer hangs on another one.
		spoil(v)
		spoil(x)
		for i, a := range answers {
			if !modelSame(a, wants[i]) {
				t.Fatalf("an answer about %s changed with it", shown(was))
			}
			spoil(a)
		}
	}
}

// Each reading is new memory, its lists within lists, too.
func TestNewMemoryOfRead(t *testing.T) {
	r := newDrawer(3)
	for range draws / 10 {
		v := r.value(4)
		s := r.written(v)
		one, _, _ := Read(s)
		two, _, _ := Read(s)
		wantNew(t, one, two)
		wantNew(t, two, one)
		spoil(one)
		if !modelSame(two, v) {
			t.Fatalf("two readings of %q share memory", s)
		}
	}
}

// What a text is read as is the value that it was written from; what is written is read as it, too.
func TestThereAndBack(t *testing.T) {
	r := newDrawer(4)
	for range draws {
		v := r.value(5)
		if Check(v) != api.OK {
			t.Fatalf("%s may be", shown(v))
		}
		s, e := Text(v)
		if want, wantE := modelText(v); s != want || e != wantE {
			t.Fatalf("Text of %s is %q, %d", shown(v), s, e)
		}
		if e != api.OK {
			continue
		}
		back, at, e := Read(s)
		if e != api.OK || at != 0 || !Same(back, v) || !modelSame(back, v) {
			t.Fatalf("%q is read as %s, %d, %d", s, shown(back), at, e)
		}
		// Written in any other way it is the same value, and Text writes that as before.
		wantRead(t, r.written(v), v)
		other, _, _ := Read(r.written(v))
		if again, e := Text(other); again != s || e != api.OK {
			t.Fatalf("Text is %q, then %q, %d", s, again, e)
		}
	}
}

// Whatever is read may be, is written, unless that is too long, and is read again as the same value.
func TestBackAndThere(t *testing.T) {
	r := newDrawer(5)
	var read, refused int
	for range draws {
		s := r.text()
		v, at, e := held(t, s)
		if e != api.OK {
			refused++
			if _, before, e := held(t, s[:at]); e != api.OK && (before != at || e != api.ErrJson) {
				t.Fatalf("%q, refused at %d: what stands ahead is refused at %d by %d", s, at, before, e)
			}
			continue
		}
		read++
		if e := Check(v); e != api.OK {
			t.Fatalf("what %q is read as may not be: %d", s, e)
		}
		again, e := Text(v)
		if e != api.OK {
			t.Fatalf("what %q is read as is not written: %d", s, e)
		}
		wantRead(t, again, v)
	}
	if read < draws/8 || refused < draws/8 {
		t.Errorf("%d were read, %d refused", read, refused)
	}
}

// No byte behind the place of a refusal could make a text of what stands up to it: none of many goes further.
func TestNothingMendsARefusal(t *testing.T) {
	r := newDrawer(6)
	for range draws {
		s := r.text()
		_, at, e := Read(s)
		if e == api.OK || at == len(s) {
			continue
		}
		for range 4 {
			other := s[:at+1] + r.text()
			if _, again, f := held(t, other); again != at || f != e {
				t.Fatalf("%q is refused at %d by %d, %q at %d by %d", s, at, e, other, again, f)
			}
		}
	}
}

func TestCheckOfDrawnValues(t *testing.T) {
	r := newDrawer(7)
	told := map[api.Errno]int{}
	for range draws {
		v := r.value(4)
		for range 1 + r.Intn(3) {
			v = r.turned(v)
		}
		e := Check(v)
		if want := modelCheck(v); e != want {
			t.Fatalf("Check of %s is %d, not %d", shown(v), e, want)
		}
		told[e]++
		s, e := Text(v)
		if want, wantE := modelText(v); s != want || e != wantE {
			t.Fatalf("Text of %s is %q, %d", shown(v), s, e)
		}
		x, name := r.turned(r.value(2)), r.chars()
		got, e := Put(v, name, x)
		if want, wantE := modelPut(v, name, x); e != wantE || !modelSame(got, want) {
			t.Fatalf("Put(%s, %q, %s) is %s, %d", shown(v), name, shown(x), shown(got), e)
		}
	}
	for _, e := range []api.Errno{api.OK, api.ErrBad, api.ErrText, api.ErrDepth} {
		if told[e] < 20 {
			t.Errorf("%d was told %d times alone", e, told[e])
		}
	}
}

// Two drawn values are the same if they are shown so, and no other time.
func TestSameOfDrawnValues(t *testing.T) {
	r := newDrawer(8)
	var same, other int
	for range draws {
		v := r.turned(r.value(4))
		if !Same(v, deep(v)) {
			t.Fatalf("%s is not the same as itself", shown(v))
		}
		w := r.turned(v)
		if Same(v, w) != modelSame(v, w) || Same(w, v) != modelSame(v, w) {
			t.Fatalf("%s and %s", shown(v), shown(w))
		}
		if modelSame(v, w) {
			same++
		} else {
			other++
		}
	}
	if same < 100 || other < 100 {
		t.Errorf("%d were the same, %d were not", same, other)
	}
}

// What a call answers hangs on its arguments alone, not on the calls ahead of it.
func TestAgain(t *testing.T) {
	for range 3 {
		wantRefused(t, `{"a":1,"a":2}`, 9, api.ErrJson)
		wantRead(t, `{"a":1}`, object("a", whole(1)))
		wantText(t, text("\x01/"), `"\u0001/"`, api.OK)
		wantPut(t, object("a", whole(1)), "b", whole(2), object("a", whole(1), "b", whole(2)), api.OK)
	}
}
