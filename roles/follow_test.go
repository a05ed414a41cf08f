package roles

import (
	"fmt"
	"slices"
	"sort"
	"testing"
	"unsafe"

	"docket/api"
)

// What P20.6 says of roles, over many drawn ones.
func TestClosedFollows(t *testing.T) {
	r := newDrawer(1)
	grown, may := 0, 0
	for range draws {
		l := r.roles()
		names := r.names(l)
		if len(names) > api.MaxItems/2 {
			names = names[:api.MaxItems/2]
		}
		more := append(slices.Clone(names), r.names(l)...)
		more = more[:min(len(more), api.MaxItems)]
		r.Shuffle(len(more), func(i, j int) { more[i], more[j] = more[j], more[i] })
		few, e := Closed(l, names)
		if e != api.OK || !slices.IsSorted(few) {
			t.Fatal(few, e)
		}
		wantClosed(t, l, few, few...)
		many, e := Closed(l, more)
		if e != api.OK || len(many) < len(few) {
			t.Fatalf("%v come to %v, but %v to %v, %d", names, few, more, many, e)
		}
		for _, name := range few {
			if !slices.Contains(many, name) {
				t.Fatalf("%v come to %v, but %v to %v", names, few, more, many)
			}
		}
		for _, deed := range pool {
			byFew, _ := May(l, names, deed)
			byMore, _ := May(l, more, deed)
			byClosed, _ := May(l, few, deed)
			if byFew && !byMore || byFew != byClosed {
				t.Fatalf("%s: %v by %v, %v by %v, %v by %v", deed, byFew, names, byMore, more, byClosed, few)
			}
			if byFew {
				may++
			}
		}
		if len(few) > len(names) {
			grown++
		}
	}
	if grown < draws/8 || may < draws {
		t.Errorf("%d grown, %d may", grown, may)
	}
}

// What P20.6 says of pairs.
func TestApartTurned(t *testing.T) {
	r := newDrawer(2)
	told := 0
	for range draws {
		pairs, acts, user, role := r.pairs(), r.acts(), r.user(), r.one(pool[:4])
		is, e := Apart(pairs, acts, user, role)
		if is {
			told++
		}
		for range 3 {
			for i := range pairs {
				if r.Intn(2) == 0 {
					pairs[i][0], pairs[i][1] = pairs[i][1], pairs[i][0]
				}
			}
			if again, e2 := Apart(pairs, acts, user, role); again != is || e2 != e {
				t.Fatalf("Apart of %v, %v for %s as %s is %v, %d, and turned round %v, %d", pairs, acts, user, role, is, e, again, e2)
			}
		}
	}
	if told < draws/20 {
		t.Errorf("%d told", told)
	}
}

// What is told is what the second version tells.
func TestSecond(t *testing.T) {
	r := newDrawer(3)
	told := map[api.Errno]int{}
	for range draws {
		l := r.roles()
		if r.Intn(2) == 0 {
			l = r.turned(l)
		}
		names, deed := r.names(l), r.one(pool)
		if r.Intn(8) == 0 {
			deed = r.one(strange)
		}
		e := secondCheck(l)
		wantCheck(t, l, e)
		told[e]++
		closed, e := secondClosed(l, names)
		if got, gotE := Closed(l, names); gotE != e || !slices.Equal(got, closed) {
			t.Fatalf("Closed of %v of %+v is %v, %d, not %v, %d", names, l, got, gotE, closed, e)
		}
		is, e := secondMay(l, names, deed)
		if got, gotE := May(l, names, deed); gotE != e || got != is {
			t.Fatalf("May of %s by %v of %+v is %v, %d, not %v, %d", deed, names, l, got, gotE, is, e)
		}
		pairs, acts, user, role := r.pairs(), r.acts(), r.user(), r.one(pool[:4])
		if r.Intn(8) == 0 {
			role = r.one(strange)
		}
		is, e = secondApart(pairs, acts, user, role)
		if got, gotE := Apart(pairs, acts, user, role); gotE != e || got != is {
			t.Fatalf("Apart of %v, %v for %s as %s is %v, %d, not %v, %d", pairs, acts, user, role, got, gotE, is, e)
		}
	}
	for _, e := range []api.Errno{api.OK, api.ErrRole, api.ErrMany} {
		if told[e] < draws/50 {
			t.Errorf("%d was told %d times", e, told[e])
		}
	}
}

// spare is a copy of a list with spare room behind it, in which something stands.
func spare[T any](l []T, x T) []T {
	copied := append(make([]T, 0, len(l)+2), l...)
	return append(copied, x, x)[:len(l)]
}

func roomy(l []api.Role) []api.Role {
	l = spare(deep(l), api.Role{Name: "spare"})
	for i := range l {
		l[i].Holds, l[i].May = spare(l[i].Holds, "spare"), spare(l[i].May, "spare")
	}
	return l
}

// everything tells what is handed in with all spare room.
func everything(l []api.Role, names []string, pairs [][2]string, acts []api.Acted) string {
	s := fmt.Sprintf("%q %q %q %q", l[:cap(l)], names[:cap(names)], pairs[:cap(pairs)], acts[:cap(acts)])
	for _, r := range l {
		s += fmt.Sprintf("%q %q", r.Holds[:cap(r.Holds)], r.May[:cap(r.May)])
	}
	return s
}

func TestOnlyRead(t *testing.T) {
	r := newDrawer(4)
	for i := range draws / 4 {
		l := r.roles()
		if i%4 == 0 {
			l = r.turned(l)
		}
		names := spare(r.names(l), "spare")
		pairs, acts := spare(r.pairs(), [2]string{"spare", "a"}), spare(r.acts(), api.Acted{User: "spare"})
		l = roomy(l)
		was := everything(l, names, pairs, acts)
		for range 2 {
			Check(l)
			Closed(l, names)
			May(l, names, r.one(pool))
			Apart(pairs, acts, r.user(), r.one(pool))
		}
		if everything(l, names, pairs, acts) != was {
			t.Fatalf("%+v, %v, %v, %v was written on", l, names, pairs, acts)
		}
	}
}

// span is the memory of a list.
type span struct{ from, to uintptr }

func spanOf[T any](l []T) []span {
	if cap(l) == 0 {
		return nil
	}
	from := uintptr(unsafe.Pointer(&l[:1][0]))
	return []span{{from, from + uintptr(cap(l))*unsafe.Sizeof(l[:1][0])}}
}

// wantApartSpans asks that no two of these share memory.
func wantApartSpans(t *testing.T, l []span) {
	t.Helper()
	sort.Slice(l, func(i, j int) bool { return l[i].from < l[j].from })
	for i := 1; i < len(l); i++ {
		if l[i].from < l[i-1].to {
			t.Fatal("two lists share memory")
		}
	}
}

func TestNewMemory(t *testing.T) {
	r := newDrawer(5)
	for range draws / 4 {
		l := roomy(r.roles())
		names := spare(r.names(l), "spare")
		all, e := Closed(l, names)
		again, _ := Closed(l, names)
		closed, _ := Closed(l, all)
		if e != api.OK && e != api.ErrMany {
			t.Fatal(e)
		}
		spans := slices.Concat(spanOf(l), spanOf(names), spanOf(all), spanOf(again), spanOf(closed))
		for _, x := range l {
			spans = append(append(spans, spanOf(x.Holds)...), spanOf(x.May)...)
		}
		wantApartSpans(t, spans)
		// What is spoilt afterwards spoils nothing else.
		was := everything(l, names, nil, nil) + fmt.Sprint(again, closed)
		for i := range all[:cap(all)] {
			all[:cap(all)][i] = "spoilt"
		}
		if everything(l, names, nil, nil)+fmt.Sprint(again, closed) != was {
			t.Fatal("something changed with an answer")
		}
	}
}

// What a call answers hangs on its arguments alone, not on the calls ahead of it.
func TestAgain(t *testing.T) {
	l := rolesOf("boss: clerk guest | sign, clerk: guest | check, guest: boss | look, other | wait")
	for range 300 {
		wantClosed(t, l, []string{"guest"}, "boss", "clerk", "guest")
		wantNotClosed(t, append(l, l...), nil, api.ErrRole)
		wantMay(t, l, "guest", "sign", true)
		wantMayNot(t, l, nil, "", api.ErrName)
		wantMay(t, rolesOf("guest | look"), "guest", "sign", false)
		wantClosed(t, l, []string{"other"}, "other")
		wantApartIs(t, [][2]string{{"boss", "clerk"}}, []api.Acted{{User: "ann", Role: "boss"}}, "ann", "clerk", true)
		wantApartIs(t, [][2]string{{"boss", "clerk"}}, nil, "ann", "clerk", false)
	}
}
