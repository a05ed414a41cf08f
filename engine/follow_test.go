package engine

import (
	"fmt"
	"slices"
	"sort"
	"strings"
	"testing"
	"unsafe"

	"docket/api"
	"docket/json"
	"docket/model"
)

func countTold(told, what string) int {
	n := 0
	for _, s := range strings.Split(told, ", ") {
		if s == what {
			n++
		}
	}
	return n
}

// What W5 says, of many models, cases and events.
func TestSteps(t *testing.T) {
	r := newDrawer(1)
	var opened, refused, toldAll, most int
	for i := range draws {
		m := r.small()
		if i%300 == 0 {
			m = r.model(8, 32, 16, 120)
		}
		c := r.ofModel(m)
		for range 4 {
			x := r.event(m)
			after, l, n, e := Raise(m, c, x)
			want, second, asked, _ := secondRaise(m, c, x)
			if e != api.OK || shown(after) != shown(want) || toldText(l) != second || n != asked {
				t.Fatalf("Raise of %+v in %+v of %+v is %+v, %s, %d, %d; not %+v, %s, %d", x, c, m, after, toldText(l), n, e, want, second, asked)
			}
			wantStep(t, m, c, after, x, l, n)
			opened += strings.Count(second, "opened")
			toldAll += len(l)
			most = max(most, len(l))
			c = after
		}
		if e := Check(m, r.turnedCase(c)); e != api.OK {
			refused++
		}
	}
	if opened < draws/2 || toldAll < 2*draws || most < 16 || refused < draws/8 {
		t.Errorf("%d opened, %d told, %d at most, %d refused", opened, toldAll, most, refused)
	}
}

// wantStep holds what Raise tells against what it did, and asks nothing of how it comes to it.
func wantStep(t *testing.T, m api.Model, c, after api.Case, x api.Event, l []api.Step, n int) {
	t.Helper()
	sentries := 0
	for _, list := range lists(&m) {
		sentries += len(*list)
	}
	if n != sentries {
		t.Fatalf("%d of %d sentries were asked", n, sentries)
	}
	if e := Check(m, after); e != api.OK {
		t.Fatalf("%+v may not be: %d", after, e)
	}
	if after.Id != c.Id || after.Version != c.Version || after.Model != c.Model || fmt.Sprint(after.Acted) != fmt.Sprint(c.Acted) {
		t.Fatalf("%+v is %+v behind a step", c, after)
	}
	for i, a := range m.Attrs {
		want := c.Values[i]
		if at := slices.Index(x.Names, a.Name); at >= 0 {
			want = x.Values[at]
		}
		if !json.Same(after.Values[i], want) {
			t.Fatalf("%s is %+v, not %+v", a.Name, after.Values[i], want)
		}
	}
	told := toldText(l)
	was := func(is, ever bool, on, off, name string) {
		ups, downs := countTold(told, on+" "+name), countTold(told, off+" "+name)
		if is != (ever && ups == downs || !ever && ups == downs+1) || !is && ups-downs != map[bool]int{true: -1}[ever] {
			t.Fatalf("%s was %v, is %v, told is %q", name, ever, is, told)
		}
	}
	for i, s := range m.Stages {
		was(after.Open[i], c.Open[i], "opened", "closed", s.Name)
	}
	for i, s := range m.Stones {
		was(after.Done[i], c.Done[i], "done", "undone", s.Name)
	}
	wantFitting(t, m, c, after, l)
}

// wantFitting turns a case by what was told, one by one: each one must be something new, and a case that may be, when nothing is closing.
func wantFitting(t *testing.T, m api.Model, c, after api.Case, l []api.Step) {
	t.Helper()
	w := worldOf(m, c)
	for _, s := range l {
		of := map[uint8]map[string]bool{api.OnOpened: w.open, api.OnClosed: w.open, api.OnDone: w.done, api.OnUndone: w.done}[s.On]
		to := s.On == api.OnOpened || s.On == api.OnDone
		if of == nil || of[s.Name] == to {
			t.Fatalf("%v was told, but is nothing new: %v", s, l)
		}
		of[s.Name] = to
		if turned := w.write(m, c); secondCheck(m, turned) != api.OK {
			t.Fatalf("behind %v of %v stands %+v", s, l, turned)
		}
	}
	if fmt.Sprint(w.write(m, c).Open, w.write(m, c).Done) != fmt.Sprint(after.Open, after.Done) {
		t.Fatalf("%v turns %+v not to %+v", l, c, after)
	}
}

// A model that waits for nothing but an event that does not come, with no sentry of OnAny, changes nothing but the attributes.
func TestQuietModels(t *testing.T) {
	r := newDrawer(2)
	for range draws {
		m := r.small()
		m.Events = append(m.Events, "never")
		for _, l := range lists(&m) {
			for i := range *l {
				(*l)[i] = api.Sentry{On: api.OnEvent, Name: "never", If: r.one("", "true", r.guard(m))}
			}
		}
		if model.Check(m) != api.OK {
			continue
		}
		c, x := r.ofModel(m), r.event(m)
		if x.Name == "never" {
			x.Name = ""
		}
		after, l, _, e := Raise(m, c, x)
		if e != api.OK || len(l) != 0 || fmt.Sprint(after.Open, after.Done) != fmt.Sprint(c.Open, c.Done) {
			t.Fatalf("Raise of %+v in %+v is %+v, %v, %d", x, c, after, l, e)
		}
		d, l, e := New(m, 1, 1)
		if e != api.OK || len(l) != 0 || slices.Contains(d.Open, true) || slices.Contains(d.Done, true) {
			t.Fatalf("New is %+v, %v, %d", d, l, e)
		}
	}
}

// What may not be, and what just may, is told as the second version tells it.
func TestTurned(t *testing.T) {
	r := newDrawer(3)
	told := map[api.Errno]int{}
	for range draws {
		m := r.small()
		c, x := r.ofModel(m), r.event(m)
		if r.Intn(2) == 0 {
			c = r.turnedCase(c)
		}
		if r.Intn(2) == 0 {
			x = r.turnedEvent(m, x)
		}
		after, l, n, e := Raise(m, c, x)
		want, second, asked, secondE := secondRaise(m, c, x)
		if e != secondE || shown(after) != shown(want) || toldText(l) != second || n != asked {
			t.Fatalf("Raise of %+v in %+v of %+v is %+v, %s, %d, %d; not %+v, %s, %d, %d", x, c, m, after, toldText(l), n, e, want, second, asked, secondE)
		}
		if got, want := Check(m, c), secondCheck(m, c); got != want {
			t.Fatalf("Check of %+v of %+v tells %d, not %d", c, m, got, want)
		}
		id, version := []int{-1, 0, 1<<31 - 1, 1 << 31}[r.Intn(4)], r.Intn(1<<31)
		first, l, e := New(m, id, version)
		wantFirst, second, wantE := secondNew(m, id, version)
		if e != wantE || shown(first) != shown(wantFirst) || toldText(l) != second {
			t.Fatalf("New of %+v is %+v, %s, %d, not %+v, %s, %d", m, first, toldText(l), e, wantFirst, second, wantE)
		}
		told[secondE]++
	}
	for _, e := range []api.Errno{api.OK, api.ErrCase, api.ErrEvent} {
		if told[e] < draws/8 {
			t.Errorf("%d was told %d times", e, told[e])
		}
	}
}

// spare is a copy of a list with spare room behind it, in which something stands.
func spare[T any](l []T, x T) []T {
	copied := append(make([]T, 0, len(l)+2), l...)
	return append(copied, x, x)[:len(l)]
}

// roomy is a copy of m with spare room behind each of its lists.
func roomy(m api.Model) api.Model {
	m = deep(m)
	for _, l := range lists(&m) {
		*l = spare(*l, api.Sentry{On: 9, Name: "spare", If: "("})
	}
	m.Attrs, m.Events, m.Apart = spare(m.Attrs, api.Attr{Name: "spare"}), spare(m.Events, "spare"), spare(m.Apart, [2]string{"spare", "room"})
	m.Stages, m.Stones = spare(m.Stages, api.Stage{Name: "spare"}), spare(m.Stones, api.Stone{Name: "spare"})
	return m
}

// roomyValues have spare room behind the lists of each value, too.
func roomyValues(l []api.Json) []api.Json {
	l = spare(l, json.Str("spare"))
	for i := range l {
		l[i].Names, l[i].Items = spare(l[i].Names, "spare"), spare(l[i].Items, json.Str("spare"))
	}
	return l
}

func roomyCase(c api.Case) api.Case {
	c.Values, c.Open, c.Done = roomyValues(c.Values), spare(c.Open, true), spare(c.Done, true)
	c.Acted = spare(c.Acted, api.Acted{User: "spare", Role: "Spare"})
	return c
}

func roomyEvent(x api.Event) api.Event {
	x.Names, x.Values = spare(x.Names, "spare"), roomyValues(x.Values)
	return x
}

// everything tells what is handed in with all spare room.
func everything(m api.Model, c api.Case, x api.Event) string {
	s := fmt.Sprint(m.Name, m.Attrs[:cap(m.Attrs)], m.Events[:cap(m.Events)], m.Stages[:cap(m.Stages)], m.Stones[:cap(m.Stones)], m.Apart[:cap(m.Apart)])
	for _, l := range lists(&m) {
		s += fmt.Sprint((*l)[:cap(*l)])
	}
	s += fmt.Sprint(c, c.Open[:cap(c.Open)], c.Done[:cap(c.Done)], c.Acted[:cap(c.Acted)], x, x.Names[:cap(x.Names)])
	for _, v := range append(c.Values[:cap(c.Values):cap(c.Values)], x.Values[:cap(x.Values)]...) {
		s += fmt.Sprint(v, v.Names[:cap(v.Names)], v.Items[:cap(v.Items)])
	}
	return s
}

// span is the memory of a list.
type span struct{ from, to uintptr }

func spanOf[T any](l []T) []span {
	if cap(l) == 0 {
		return nil
	}
	from := uintptr(unsafe.Pointer(&l[:1][0]))
	return []span{{from, from + uintptr(cap(l))*unsafe.Sizeof(l[:1][0])}}
}

func spansOfModel(m api.Model) []span {
	l := slices.Concat(spanOf(m.Attrs), spanOf(m.Events), spanOf(m.Stages), spanOf(m.Stones), spanOf(m.Apart))
	for _, s := range lists(&m) {
		l = append(l, spanOf(*s)...)
	}
	return l
}

func spansOfValues(values []api.Json) []span {
	l := spanOf(values)
	for _, v := range values {
		l = append(append(l, spanOf(v.Names)...), spanOf(v.Items)...)
	}
	return l
}

func spansOfCase(c api.Case) []span {
	return slices.Concat(spansOfValues(c.Values), spanOf(c.Open), spanOf(c.Done), spanOf(c.Acted))
}

// wantApart asks that no two of these share memory.
func wantApart(t *testing.T, l []span) {
	t.Helper()
	sort.Slice(l, func(i, j int) bool { return l[i].from < l[j].from })
	for i := 1; i < len(l); i++ {
		if l[i].from < l[i-1].to {
			t.Fatal("two lists share memory")
		}
	}
}

func TestOnlyRead(t *testing.T) {
	r := newDrawer(5)
	for range draws / 4 {
		m := r.small()
		c, x, now := r.ofModel(m), r.event(m), r.other(m)
		if r.Intn(4) == 0 {
			c = r.turnedCase(c)
		}
		if r.Intn(4) == 0 {
			x = r.turnedEvent(m, x)
		}
		m, c, x, now = roomy(m), roomyCase(c), roomyEvent(x), roomy(now)
		was := everything(m, c, x) + everything(now, c, x)
		for range 2 {
			Check(m, c)
			New(m, 1, 1)
			Raise(m, c, x)
			Move(m, now, c, 2)
			Move(now, m, c, 2)
		}
		if everything(m, c, x)+everything(now, c, x) != was {
			t.Fatalf("%+v, %+v, %+v was written on", m, c, x)
		}
	}
}

func TestNewMemory(t *testing.T) {
	r := newDrawer(6)
	for range draws / 4 {
		m := r.small()
		c, x, now := roomyCase(r.ofModel(m)), roomyEvent(r.event(m)), roomy(r.other(m))
		m = roomy(m)
		first, told1, _ := New(m, 1, 1)
		again, told2, _ := New(m, 1, 1)
		after, told3, _, e := Raise(m, c, x)
		same, told4, _, _ := Raise(m, c, x)
		moved, moveE := Move(m, now, c, 1)
		twice, _ := Move(m, now, c, 1)
		stayed, _ := Move(m, m, c, 1)
		if e != api.OK || moveE != api.OK {
			t.Fatal(e, moveE)
		}
		wantApart(t, slices.Concat(spansOfModel(m), spansOfModel(now), spansOfCase(c), spanOf(x.Names), spansOfValues(x.Values),
			spansOfCase(first), spansOfCase(again), spansOfCase(after), spansOfCase(same), spansOfCase(moved), spansOfCase(twice), spansOfCase(stayed),
			spanOf(told1), spanOf(told2), spanOf(told3), spanOf(told4)))
		// What is spoilt afterwards spoils nothing else.
		was := fmt.Sprint(again, same, twice, told2, told4) + everything(m, c, x)
		for _, s := range []api.Case{first, after, moved, stayed} {
			spoil(s)
		}
		clear(told1)
		clear(told3)
		if fmt.Sprint(again, same, twice, told2, told4)+everything(m, c, x) != was {
			t.Fatal("an answer changed with another one")
		}
	}
}

// spoil writes over all lists of a case.
func spoil(c api.Case) {
	for i := range c.Values {
		c.Values[i] = json.Str("spoilt")
	}
	for i := range c.Open {
		c.Open[i] = !c.Open[i]
	}
	for i := range c.Done {
		c.Done[i] = !c.Done[i]
	}
	for i := range c.Acted {
		c.Acted[i] = api.Acted{User: "spoilt"}
	}
}

// What a call answers hangs on its arguments alone, not on the calls ahead of it.
func TestAgain(t *testing.T) {
	m := with(nest(), "a.opens event go & b.opens opened a n < 5 & x.done opened b & y.done any n + 1 < 0 & d.opens done x")
	c := at(m, "", "")
	for range 300 {
		wantRaise(t, m, c, event("go", "n", json.Num(1)), "opened a, opened b, done x, opened d", "a b d", "x")
		wantRefused(t, m, c, event("other"), api.ErrEvent)
		wantRaise(t, m, c, event("go", "n", json.Num(9)), "opened a", "a", "")
		wantRaise(t, m, c, event(""), "", "", "")
		wantNew(t, m, 1, 2, "", api.OK)
		wantMove(t, m, nest(), c, 3, api.OK)
		wantMove(t, m, m, c, -1, api.ErrArg)
		wantCheck(t, m, at(m, "b", ""), api.ErrCase)
	}
}
