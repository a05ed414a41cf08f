package guard

import (
	"fmt"
	"sort"
	"strings"
	"testing"
	"unsafe"

	"docket/api"
)

// roomy is a copy of g with spare room behind each of its lists, in which something stands.
func roomy(g api.Guard) api.Guard {
	kids := make([]api.Guard, 0, len(g.Kids)+2)
	for _, x := range g.Kids {
		kids = append(kids, roomy(x))
	}
	g.Kids = append(kids, leaf(77, "spare"), leaf(78, ""))[:len(kids)]
	return g
}

// withSpare tells a guard with the spare room of each of its lists.
func withSpare(g api.Guard) string {
	kids := g.Kids[:cap(g.Kids)]
	g.Kids = nil
	s := shown(g)
	for _, x := range kids {
		s += withSpare(x)
	}
	return s
}

// spoil writes over all lists of a guard, their spare room too.
func spoil(g api.Guard) {
	kids := g.Kids[:cap(g.Kids)]
	for i := range kids {
		spoil(kids[i])
		kids[i] = leaf(99, "spoilt")
	}
}

// span is the memory of a list.
type span struct{ from, to uintptr }

func spanOf[T any](l []T) []span {
	if cap(l) == 0 {
		return nil
	}
	from := uintptr(unsafe.Pointer(&l[:1][0]))
	return []span{{from, from + uintptr(cap(l))*unsafe.Sizeof(l[:1][0])}}
}

// spans are those of all lists within a guard, with their spare room.
func spans(g api.Guard) []span {
	l := spanOf(g.Kids)
	for _, x := range g.Kids[:cap(g.Kids)] {
		l = append(l, spans(x)...)
	}
	return l
}

// wantApart asks that no two of these share memory.
func wantApart(t *testing.T, l []span) {
	t.Helper()
	sort.Slice(l, func(i, j int) bool { return l[i].from < l[j].from })
	for i := 1; i < len(l); i++ {
		if l[i].from < l[i-1].to {
			t.Fatal("two lists share memory")
		}
	}
}

// withRoom is a model and a case whose lists have spare room.
func withRoom(m api.Model, c api.Case) (api.Model, api.Case) {
	m.Attrs = append(append([]api.Attr{}, m.Attrs...), api.Attr{Name: "spare", Kind: 1}, api.Attr{Name: "room"})[:len(m.Attrs)]
	m.Stages = append(append([]api.Stage{}, m.Stages...), api.Stage{Name: "spare"}, api.Stage{Name: "room"})[:len(m.Stages)]
	m.Stones = append(append([]api.Stone{}, m.Stones...), api.Stone{Name: "spare"}, api.Stone{Name: "room"})[:len(m.Stones)]
	values := append(append([]api.Json{}, c.Values...), truthValue(true), intValue(1))
	for i := range values {
		values[i].Items = append([]api.Json{}, intValue(5), intValue(6))[:0]
		values[i].Names = append([]string{}, "spare", "room")[:0]
	}
	c.Values = values[:len(c.Values)]
	c.Open = append(append([]bool{}, c.Open...), true, false)[:len(c.Open)]
	c.Done = append(append([]bool{}, c.Done...), true, false)[:len(c.Done)]
	return m, c
}

// everything tells a model and a case with all spare room.
func everything(m api.Model, c api.Case) string {
	s := fmt.Sprint(m.Attrs[:cap(m.Attrs)], m.Stages[:cap(m.Stages)], m.Stones[:cap(m.Stones)], c.Open[:cap(c.Open)], c.Done[:cap(c.Done)])
	for _, v := range c.Values[:cap(c.Values)] {
		s += told(v) + fmt.Sprint(v.Items[:cap(v.Items)], v.Names[:cap(v.Names)])
	}
	return s
}

func TestOnlyRead(t *testing.T) {
	r := newDrawer(5)
	for range draws / 4 {
		m := r.model()
		m, c := withRoom(m, r.of(m))
		g := r.fit(uint8(1+r.Intn(3)), m, 5)
		if r.Intn(3) == 0 {
			g = r.turned(g)
		}
		g = roomy(g)
		wasG, was := withSpare(g), everything(m, c)
		for range 2 {
			Text(g)
			Kind(g, m)
			Names(g)
			Worth(g, m, c)
			Worth(g, m, api.Case{})
		}
		if withSpare(g) != wasG || everything(m, c) != was {
			t.Fatalf("%s, or its model or case, was written on", shown(g))
		}
	}
}

// Each reading is new memory, its kids within kids, too.
func TestNewMemoryOfRead(t *testing.T) {
	r := newDrawer(6)
	for range draws / 4 {
		g := r.guard(6)
		s := r.written(g)
		one, _, _ := Read(s)
		two, _, _ := Read(s)
		wantApart(t, append(spans(one), spans(two)...))
		spoil(one)
		if !modelSame(two, g) {
			t.Fatalf("two readings of %q share memory", s)
		}
		if three, _, _ := Read(s); !modelSame(three, g) {
			t.Fatalf("a reading of %q is kept", s)
		}
	}
}

func TestNewMemoryOfNames(t *testing.T) {
	r := newDrawer(7)
	for range draws / 4 {
		g := roomy(r.guard(6))
		attrs, stages, stones, _ := Names(g)
		again, stagesAgain, stonesAgain, _ := Names(g)
		lists := [][]string{attrs, stages, stones, again, stagesAgain, stonesAgain}
		l := spans(g)
		for _, names := range lists {
			l = append(l, spanOf(names)...)
		}
		wantApart(t, l)
		want := fmt.Sprint(again, stagesAgain, stonesAgain)
		for _, names := range lists[:3] {
			names = names[:cap(names)]
			for i := range names {
				names[i] = "spoilt"
			}
		}
		spoil(g)
		if fmt.Sprint(again, stagesAgain, stonesAgain) != want {
			t.Fatal("an answer changed with another one")
		}
	}
}

// A worth has no list at all, not even the room of one.
func TestNewMemoryOfWorth(t *testing.T) {
	m, c := withRoom(plainModel(), plainCase())
	for _, s := range []string{"t", "n", "x", "low", "two", "not t", "t and f", "f or t", "n + 1", "n = 7", "open(s)"} {
		v, e := Worth(read(t, s), m, c)
		if e != api.OK || cap(v.Items)+cap(v.Names) > 0 {
			t.Errorf("%s is worth %s, %d, with room for %d and %d", s, told(v), e, cap(v.Items), cap(v.Names))
		}
	}
}

// What a text is read as is the guard that it was written from.
func TestThereAndBack(t *testing.T) {
	r := newDrawer(8)
	for range draws {
		g := r.guard(7)
		s, e := Text(g)
		if want, wantE := modelText(g); s != want || e != wantE || e != api.OK {
			t.Fatalf("Text of %s is %q, %d", shown(g), s, e)
		}
		wantRead(t, s, g)
		// Written in any other way it is the same guard, and Text writes that as before.
		other := r.written(g)
		wantRead(t, other, g)
		back, _, _ := Read(other)
		if again, e := Text(back); again != s || e != api.OK {
			t.Fatalf("Text is %q, then %q, %d", s, again, e)
		}
	}
	for _, g := range []api.Guard{nots(31, a), wide(whole(1)).Kids[0].Kids[1], leaf(api.GuardText, strings.Repeat("~", 16382))} {
		if s, e := Text(g); e == api.OK {
			wantRead(t, s, g)
		} else {
			t.Error(e)
		}
	}
}

// Whatever is read is written, unless that is too long, and is read again as the same guard.
func TestBackAndThere(t *testing.T) {
	r := newDrawer(9)
	read := 0
	for range draws {
		g, _, e := Read(r.text())
		if e != api.OK {
			continue
		}
		read++
		s, e := Text(g)
		if e != api.OK {
			t.Fatalf("what is read as %s is not written: %d", shown(g), e)
		}
		wantRead(t, s, g)
	}
	if read < draws/8 {
		t.Errorf("%d were read", read)
	}
	// What is read from fewer bytes may be too long with all its blanks and brackets.
	long := "a*a+a*a"
	for len(long)*2+6 <= api.MaxText {
		long = "(" + long + ")or(" + long + ")"
	}
	g, _, e := held(t, long)
	if e != api.OK {
		t.Error(e)
	}
	wantText(t, g, "", api.ErrText)
}

// A guard that has a kind has, in a case that may be, a worth of that kind, or ErrWorth; without sums and products it always has one.
func TestWhatHasAKindHasAWorth(t *testing.T) {
	r := newDrawer(10)
	counts := map[api.Errno]int{}
	kinds := map[uint8]int{}
	for range draws {
		m := r.model()
		c := r.of(m)
		g := r.fit(uint8(1+r.Intn(3)), m, 6)
		if r.Intn(8) == 0 {
			g = r.turned(g)
		}
		kind, e := Kind(g, m)
		v, worthE := Worth(g, m, c)
		if want, wantE := modelWorth(g, m, c); !sameWorth(v, want) || worthE != wantE {
			t.Fatalf("%s in %v of %v is worth %s, %d, not %s, %d", shown(g), c, m, told(v), worthE, told(want), wantE)
		}
		counts[worthE]++
		if e != api.OK {
			if worthE != e {
				t.Fatalf("%s has no kind by %d, no worth by %d", shown(g), e, worthE)
			}
			continue
		}
		sums := strings.ContainsAny(strings.Join(r.row(withoutTexts(g), 0), " "), "+*-")
		switch {
		case worthE == api.ErrWorth && sums:
		case worthE != api.OK, v.Kind != []uint8{0, api.Bool, api.Int, api.Text}[kind]:
			t.Fatalf("%s of the kind %d is worth %s, %d", shown(g), kind, told(v), worthE)
		default:
			kinds[v.Kind]++
		}
		// In a case that has other values, too.
		if other, e := Worth(g, m, r.of(m)); e != api.OK && (e != api.ErrWorth || !sums) || e == api.OK && other.Kind != []uint8{0, api.Bool, api.Int, api.Text}[kind] {
			t.Fatalf("%s of the kind %d is worth %s, %d", shown(g), kind, told(other), e)
		}
	}
	if counts[api.OK] < 1000 || counts[api.ErrWorth] < 100 || len(kinds) != 3 {
		t.Error(counts, kinds)
	}
}

// withoutTexts is g with other texts and names than may hold a sign.
func withoutTexts(g api.Guard) api.Guard {
	g = deep(g)
	for _, x := range parts(&g) {
		if x.Kind < api.GuardNot && x.Kind >= api.GuardText {
			x.Text = "a"
		}
	}
	return g
}

// What a call answers hangs on its arguments alone, not on the calls ahead of it.
func TestAgain(t *testing.T) {
	m, c := plainModel(), plainCase()
	for range 3 {
		wantGuard(t, "a = = b", 4)
		wantRead(t, "a = b", over(api.GuardSame, a, b))
		wantWorth(t, read(t, "9223372036854775807 + n"), m, c, api.Json{}, api.ErrWorth)
		wantWorth(t, read(t, "n"), m, c, intValue(7), api.OK)
		wantNames(t, "b = a", "a b", "", "")
		wantNames(t, "open(a)", "", "a", "")
	}
}
