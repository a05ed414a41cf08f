package model

import (
	"fmt"
	"sort"
	"testing"
	"unsafe"

	"docket/api"
	"docket/json"
)

// spare is a copy of a list with spare room behind it, in which something stands.
func spare[T any](l []T, x T) []T {
	copied := append(make([]T, 0, len(l)+2), l...)
	return append(copied, x, x)[:len(l)]
}

// roomy is a copy of m with spare room behind each of its lists.
func roomy(m api.Model) api.Model {
	m = deep(m)
	for _, l := range lists(&m) {
		*l = spare(*l, api.Sentry{On: 9, Name: "spare", If: "("})
	}
	m.Attrs, m.Events, m.Apart = spare(m.Attrs, api.Attr{Name: "spare"}), spare(m.Events, "spare"), spare(m.Apart, [2]string{"spare", "room"})
	m.Stages, m.Stones = spare(m.Stages, api.Stage{Name: "spare"}), spare(m.Stones, api.Stone{Name: "spare"})
	return m
}

func roomyValue(v api.Json) api.Json {
	names, items := spare(v.Names, "spare"), spare(v.Items, json.Str("spare"))
	for i, x := range items {
		items[i] = roomyValue(x)
	}
	v.Names, v.Items = names, items
	return v
}

// everything tells m with all spare room.
func everything(m api.Model) string {
	s := fmt.Sprint(m.Name, m.Attrs[:cap(m.Attrs)], m.Events[:cap(m.Events)], m.Stages[:cap(m.Stages)], m.Stones[:cap(m.Stones)], m.Apart[:cap(m.Apart)])
	for _, l := range lists(&m) {
		s += fmt.Sprint((*l)[:cap(*l)])
	}
	return s
}

func everythingOf(v api.Json) string {
	s := fmt.Sprint(v.Kind, v.Bool, v.Int, v.Text, len(v.Names), len(v.Items), v.Names[:cap(v.Names)])
	for _, x := range v.Items[:cap(v.Items)] {
		s += everythingOf(x)
	}
	return s
}

// span is the memory of a list.
type span struct{ from, to uintptr }

func spanOf[T any](l []T) []span {
	if cap(l) == 0 {
		return nil
	}
	from := uintptr(unsafe.Pointer(&l[:1][0]))
	return []span{{from, from + uintptr(cap(l))*unsafe.Sizeof(l[:1][0])}}
}

func spansOf(m api.Model) []span {
	l := append(spanOf(m.Attrs), spanOf(m.Events)...)
	l = append(append(append(l, spanOf(m.Stages)...), spanOf(m.Stones)...), spanOf(m.Apart)...)
	for _, s := range lists(&m) {
		l = append(l, spanOf(*s)...)
	}
	return l
}

func spansOfValue(v api.Json) []span {
	l := append(spanOf(v.Names), spanOf(v.Items)...)
	for _, x := range v.Items[:cap(v.Items)] {
		l = append(l, spansOfValue(x)...)
	}
	return l
}

// wantApart asks that no two of these share memory.
func wantApart(t *testing.T, l []span) {
	t.Helper()
	sort.Slice(l, func(i, j int) bool { return l[i].from < l[j].from })
	for i := 1; i < len(l); i++ {
		if l[i].from < l[i-1].to {
			t.Fatal("two lists share memory")
		}
	}
}

func TestOnlyRead(t *testing.T) {
	r := newDrawer(5)
	for range draws / 4 {
		m := r.any(5, 3, 8)
		if r.Intn(3) == 0 {
			m = r.turned(m)
		}
		m = roomy(m)
		was := everything(m)
		for range 2 {
			Check(m)
			Order(m)
			Leans(m, [3]int{1, 0, 0}, [3]int{2, 0, 0})
			To(m)
		}
		if everything(m) != was {
			t.Fatalf("%+v was written on", m)
		}
	}
	for range draws / 8 {
		v, _ := To(r.straight(3, 2, 5))
		if all := parts(v); r.Intn(2) == 0 {
			v = at(v, all[r.Intn(len(all))], func(x api.Json) api.Json { return json.Str("x") })
		}
		v = roomyValue(v)
		was := everythingOf(v)
		for range 2 {
			From(v)
		}
		if everythingOf(v) != was {
			t.Fatalf("%s was written on", written(v))
		}
	}
}

func TestNewMemory(t *testing.T) {
	r := newDrawer(6)
	for i := range draws / 8 {
		m := roomy(r.straight(3, 2, 6))
		if i == 0 {
			m = roomy(full())
		}
		one, _ := Order(m)
		two, _ := Order(m)
		v, _ := To(m)
		w, _ := To(m)
		l := append(append(append(append(spansOf(m), spanOf(one)...), spanOf(two)...), spansOfValue(v)...), spansOfValue(w)...)
		a, e := From(v)
		b, _ := From(v)
		l = append(append(l, spansOf(a)...), spansOf(b)...)
		wantApart(t, l)
		want := shown(m)
		if e != api.OK || shown(a) != want {
			t.Fatalf("%+v is told as %+v, %d", m, a, e)
		}
		// What is spoilt afterwards spoils nothing else.
		order := fmt.Sprint(two)
		for i := range one {
			one[i] = [3]int{9, 9, 9}
		}
		spoil(v)
		for _, list := range lists(&a) {
			for i := range *list {
				(*list)[i] = api.Sentry{On: 99}
			}
		}
		clear(a.Attrs)
		clear(a.Events)
		clear(a.Stages)
		clear(a.Stones)
		clear(a.Apart)
		if again, _ := Order(m); fmt.Sprint(again) != order || fmt.Sprint(two) != order || written(w) != secondText(m) || shown(b) != want || shown(m) != want {
			t.Fatal("an answer changed with another one")
		}
	}
}

// spoil writes over all lists of a value.
func spoil(v api.Json) {
	for i := range v.Names {
		v.Names[i] = "spoilt"
	}
	for i := range v.Items {
		spoil(v.Items[i])
		v.Items[i] = json.Str("spoilt")
	}
}

// From of To is the model, through its text, too.
func TestThereAndBack(t *testing.T) {
	r := newDrawer(7)
	for i := range draws {
		m := r.straight(1+r.Intn(5), r.Intn(4), 6)
		if i%100 == 0 {
			m = r.straight(1+r.Intn(32), r.Intn(33), 30)
		}
		v, e := To(m)
		if e != api.OK || written(v) != secondText(m) {
			t.Fatalf("To of %+v tells %s, %d", m, written(v), e)
		}
		back, e := From(v)
		if e != api.OK || shown(back) != shown(m) {
			t.Fatalf("From of To of %+v is %+v, %d", m, back, e)
		}
		again, e := To(back)
		if e != api.OK || !json.Same(v, again) {
			t.Fatalf("To tells %s, then %s, %d", written(v), written(again), e)
		}
		text, e := json.Text(v)
		if e != api.OK {
			continue
		}
		if back, e := From(value(t, text)); e != api.OK || shown(back) != shown(m) {
			t.Fatalf("From of %s is %+v, %d", text, back, e)
		}
	}
}

// What a call answers hangs on its arguments alone, not on the calls ahead of it, nor on how a map is gone through.
func TestAgain(t *testing.T) {
	m := with(nest(), "a.opens opened d open(d) and done(x) & d.opens undone y & x.done any not done(y) & y.undo closed c & b.closes any & b.closes event a & c.closes any 1 < 2 & x.undo any & c.opens any & b.opens any")
	order, _ := Order(m)
	wantCheck(t, m, api.OK)
	for range 500 {
		wantCheck(t, api.Model{Name: "m", Stages: []api.Stage{{Name: "a", In: 0}}}, api.ErrModel)
		if again, e := Order(m); fmt.Sprint(again) != fmt.Sprint(order) || e != api.OK {
			t.Fatalf("the order is %v, %d, then %v", again, e, order)
		}
		wantLeans(t, m, [3]int{1, 0, 0}, [3]int{3, 0, 0}, true, api.OK)
		wantLeans(t, m, [3]int{1, 0, 0}, [3]int{1, 0, 0}, false, api.OK)
		wantFromText(t, `{"name":"m","x":1}`, api.Model{}, api.ErrBad)
		wantFromText(t, `{"name":"m"}`, api.Model{Name: "m"}, api.OK)
	}
}
