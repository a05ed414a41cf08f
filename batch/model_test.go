package batch

import (
	"bytes"
	"fmt"
	"maps"
	"math/rand"
	"slices"
	"strings"
	"testing"

	"docket/api"
	"docket/disk"
	"docket/tree"
)

// What the chapter says of a store, told once more by other means: what counts is a map in memory, and a look has one of its own, copied when it was taken. The model calls none of this package's functions. For the errors and acts that are tree's it asks tree, which its own tests hold against a model.

type modelLook struct {
	number, moment int
	told           map[string]string
}

type modelStore struct {
	disk   api.Disk
	number int
	told   map[string]string
	looks  []modelLook
	taken  int
}

func modelOf(t testing.TB, d api.Disk) *modelStore {
	t.Helper()
	n, e := tree.Open(d)
	if e != api.OK {
		t.Fatalf("no tree: error %d", e)
	}
	l, e := tree.Range(d, "", "", n)
	if e != api.OK {
		t.Fatalf("tree.Range: error %d", e)
	}
	m := &modelStore{disk: copied(d), number: n, told: map[string]string{}}
	for _, c := range l {
		m.told[c.Key] = c.Value
	}
	return m
}

// there is a look, if it is there.
func (m *modelStore) there(look int) (modelLook, bool) {
	for _, x := range append([]modelLook{{0, m.number, m.told}}, m.looks...) {
		if x.number == look {
			return x, true
		}
	}
	return modelLook{}, false
}

func (m *modelStore) kept() int {
	if len(m.looks) == 0 {
		return m.number
	}
	return slices.MinFunc(m.looks, func(a, b modelLook) int { return a.moment - b.moment }).moment
}

func (m *modelStore) look() (int, api.Errno) {
	if len(m.looks) == 64 {
		return 0, api.ErrMany
	}
	m.taken++
	m.looks = append(m.looks, modelLook{m.taken, m.number, maps.Clone(m.told)})
	return m.taken, api.OK
}

func (m *modelStore) drop(look int) api.Errno {
	for i, x := range m.looks {
		if x.number == look {
			m.looks = slices.Delete(m.looks, i, i+1)
			return api.OK
		}
	}
	return api.ErrSnap
}

func (m *modelStore) get(look int, key string) (string, bool, api.Errno) {
	x, is := m.there(look)
	if !is {
		return "", false, api.ErrSnap
	}
	if key == "" || len(key) > 256 {
		return "", false, api.ErrKey
	}
	v, is := x.told[key]
	return v, is, api.OK
}

func (m *modelStore) list(look int, from, to string) ([]api.Change, api.Errno) {
	x, is := m.there(look)
	if !is {
		return nil, api.ErrSnap
	}
	if len(from) > 256 || len(to) > 256 {
		return nil, api.ErrText
	}
	var l []api.Change
	for _, key := range slices.Sorted(maps.Keys(x.told)) {
		if key >= from && (to == "" || key < to) {
			l = append(l, of(key, x.told[key]))
		}
	}
	return l, api.OK
}

// changed tells whether a key of changes counts otherwise now than by a look.
func (m *modelStore) changed(x modelLook, l []api.Change) bool {
	return slices.ContainsFunc(l, func(c api.Change) bool {
		was, wasThere := x.told[c.Key]
		now, isThere := m.told[c.Key]
		return was != now || wasThere != isThere
	})
}

func (m *modelStore) acts(look int, l []api.Change) ([]api.Act, api.Errno) {
	x, is := m.there(look)
	if !is {
		return nil, api.ErrSnap
	}
	if _, e := tree.Write(l, m.number+1); e != api.OK {
		return nil, e
	}
	if look != 0 && m.changed(x, l) {
		return nil, api.ErrRace
	}
	acts, _, e := tree.Put(m.disk, l, m.kept())
	return acts, e
}

func (m *modelStore) put(look int, l []api.Change) api.Errno {
	acts, e := m.acts(look, l)
	if e != api.OK {
		return e
	}
	d, e := disk.Do(m.disk, acts)
	if e != api.OK {
		return e
	}
	m.disk, m.told = d, behind(m.told, l)
	m.number++
	return api.OK
}

// behind is what counts when changes were put.
func behind(told map[string]string, l []api.Change) map[string]string {
	now := maps.Clone(told)
	for _, c := range l {
		delete(now, c.Key)
		if !c.Gone {
			now[c.Key] = c.Value
		}
	}
	return now
}

func of(key, value string) api.Change { return api.Change{Key: key, Value: value} }

func away(key string) api.Change { return api.Change{Key: key, Gone: true} }

func changes(l ...api.Change) []api.Change { return l }

func chars(n int, c byte) string { return strings.Repeat(string(c), n) }

// keyed are so many changes, each with a key of its own.
func keyed(n int) []api.Change {
	var l []api.Change
	for i := range n {
		l = append(l, of(fmt.Sprintf("key%04d", i), "v"))
	}
	return l
}

// short is changes as a message tells them.
func short(l []api.Change) string {
	if len(l) > 6 {
		return fmt.Sprintf("%s and %d more", short(l[:6]), len(l)-6)
	}
	var s []string
	for _, c := range l {
		s = append(s, fmt.Sprintf("%.12q %.12q %t", c.Key, c.Value, c.Gone))
	}
	return "(" + strings.Join(s, ", ") + ")"
}

// shortActs is acts as a message tells them.
func shortActs(l []api.Act) string {
	var s []string
	for _, a := range l {
		if a.Flush {
			s = append(s, "flush")
		} else {
			s = append(s, fmt.Sprint(a.Put.Sector))
		}
	}
	return "(" + strings.Join(s, " ") + ")"
}

func sameActs(a, b []api.Act) bool {
	return slices.EqualFunc(a, b, func(x, y api.Act) bool {
		return x.Flush == y.Flush && x.Put.Sector == y.Put.Sector && bytes.Equal(x.Put.Data, y.Put.Data)
	})
}

// copied is a disk with bytes of its own.
func copied(d api.Disk) api.Disk {
	x := api.Disk{Count: d.Count, Data: bytes.Clone(d.Data)}
	for _, w := range d.Waits {
		x.Waits = append(x.Waits, api.Put{Sector: w.Sector, Data: bytes.Clone(w.Data)})
	}
	return x
}

func formatted(t testing.TB, count int) api.Disk {
	t.Helper()
	d, e := tree.Format(count)
	if e != api.OK {
		t.Fatalf("Format(%d): error %d", count, e)
	}
	return d
}

// done is a disk behind acts, which must be without an error.
func done(t testing.TB, d api.Disk, acts []api.Act, e api.Errno) api.Disk {
	t.Helper()
	if e != api.OK {
		t.Fatalf("no acts: error %d", e)
	}
	d, e = disk.Do(d, acts)
	if e != api.OK {
		t.Fatalf("Do: error %d", e)
	}
	return d
}

// putting is a disk behind a put by tree.
func putting(t testing.TB, d api.Disk, l ...api.Change) api.Disk {
	t.Helper()
	acts, _, e := tree.Put(d, l, 0)
	return done(t, d, acts, e)
}

// waiting is a disk that is now as d is, but nothing of it is sure.
func waiting(d api.Disk) api.Disk {
	x := api.Disk{Count: d.Count, Data: make([]byte, len(d.Data))}
	for n := range d.Count {
		b := bytes.Clone(d.Data[n*128 : n*128+128])
		if slices.ContainsFunc(b, func(c byte) bool { return c != 0 }) {
			x.Waits = append(x.Waits, api.Put{Sector: n, Data: b})
		}
	}
	return x
}

func drawText(r *rand.Rand, most int) string {
	b := make([]byte, r.Intn(most+1))
	for i := range b {
		b[i] = "\x00\x01\x7f\x80\xffabc"[r.Intn(8)]
	}
	return string(b)
}

// drawKeys are keys that stand close to one another.
func drawKeys(r *rand.Rand, many int) []string {
	seen := map[string]bool{"": true}
	l := []string{}
	for len(l) < many {
		if k := drawText(r, 3); !seen[k] {
			seen[k] = true
			l = append(l, k)
		}
	}
	return l
}

// drawChanges are changes of some of these keys; their values are of few kinds, so that some are put as they were.
func drawChanges(r *rand.Rand, keys []string) []api.Change {
	var l []api.Change
	for _, n := range r.Perm(len(keys))[:1+r.Intn(min(3, len(keys)))] {
		switch k := r.Intn(8); {
		case k < 2:
			l = append(l, away(keys[n]))
		case k < 5:
			l = append(l, of(keys[n], []string{"", "x", "y"}[r.Intn(3)]))
		default:
			l = append(l, of(keys[n], drawText(r, 1300)))
		}
	}
	return l
}

// drawWrong are changes that tree.Write refuses.
func drawWrong(r *rand.Rand, keys []string) []api.Change {
	// Without spare room: what is put behind them here is not to be written over there.
	some := slices.Clip(drawChanges(r, keys))
	return [][]api.Change{nil, keyed(65), append(some, of("", "x")), append(some, of(chars(257, 'k'), "x")), append(some, of("zz", chars(4097, 'v'))), append(some, some[0]), append(some, api.Change{Key: "zz", Value: "x", Gone: true}), append(some, of("zz", chars(4096, 'v')))}[r.Intn(8)]
}
