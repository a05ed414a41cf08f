package tree

import (
	"fmt"
	"math/rand"
	"slices"
	"sort"
	"strings"
	"testing"

	"docket/api"
	"docket/disk"
	"docket/files"
	"docket/log"
	"docket/table"
)

// What the chapter says of a tree, told once more by other means: tables and records are lists in memory, and what counts is looked for among all entries, in any order. The model calls none of this package's functions. To lay a tree on a disk, and to tell acts, it calls the layers below, which their own tests hold against models of their own.

const end = 1<<31 - 1 // the greatest number of changes, and of a file

type modelLeaf struct {
	level, number int
	entries       []api.Entry
}

type modelRecord struct {
	seq     int
	changes []api.Change
}

type modelTree struct {
	leaves  []modelLeaf
	records []modelRecord
}

func modelSmall(n int) string {
	s := ""
	for ; n >= 128; n /= 128 {
		s += string([]byte{byte(128 + n%128)})
	}
	return s + string([]byte{byte(n)})
}

func modelText(s string) string { return modelSmall(len(s)) + s }

// text is a record as bytes, whether its changes may be or not.
func (r modelRecord) text() string {
	var s strings.Builder
	s.WriteString(modelSmall(r.seq) + modelSmall(len(r.changes)))
	for _, c := range r.changes {
		if c.Gone {
			s.WriteString(modelText(c.Key) + "\x01")
			continue
		}
		s.WriteString(modelText(c.Key) + "\x00" + modelText(c.Value))
	}
	return s.String()
}

func modelWrite(l []api.Change, seq int) (string, api.Errno) {
	if int64(seq) <= 0 || int64(seq) >= 1<<31 {
		return "", api.ErrArg
	}
	switch n := len(l); {
	case n > 64:
		return "", api.ErrMany
	case n == 0:
		return "", api.ErrNone
	}
	seen := map[string]bool{}
	for _, c := range l {
		switch n := len(c.Key); {
		case n == 0 || n > 256:
			return "", api.ErrKey
		case len(c.Value) > 4096:
			return "", api.ErrText
		case c.Gone && c.Value != "" || seen[c.Key]:
			return "", api.ErrBad
		}
		seen[c.Key] = true
	}
	s := modelRecord{seq, l}.text()
	if len(s) > 4096 {
		return "", api.ErrText
	}
	return s, api.OK
}

func modelAhead(a, b api.Entry) bool {
	if a.Key == b.Key {
		return b.Seq < a.Seq
	}
	return strings.Compare(a.Key, b.Key) < 0
}

func modelSorted(l []api.Entry) []api.Entry {
	l = slices.Clone(l)
	sort.SliceStable(l, func(i, k int) bool { return modelAhead(l[i], l[k]) })
	return l
}

func modelName(level, number int) string { return fmt.Sprintf("l%d.%d", level, number) }

func (m modelTree) tabled() []api.Entry {
	var l []api.Entry
	for _, x := range m.leaves {
		l = append(l, x.entries...)
	}
	return l
}

func modelMost(l []api.Entry) int {
	most := 0
	for _, x := range l {
		most = max(most, x.Seq)
	}
	return most
}

func (m modelTree) fresh() []api.Entry {
	flushed := modelMost(m.tabled())
	var l []api.Entry
	for _, r := range m.records {
		for _, c := range r.changes {
			if r.seq > flushed {
				l = append(l, api.Entry{Key: c.Key, Value: c.Value, Seq: r.seq, Gone: c.Gone})
			}
		}
	}
	return l
}

func (m modelTree) all() []api.Entry { return append(m.tabled(), m.fresh()...) }

func (m modelTree) number() int { return modelMost(m.all()) }

// counts is what counts at a number, rising.
func (m modelTree) counts(seq int) []api.Change {
	newest := map[string]api.Entry{}
	for _, x := range m.all() {
		if best, is := newest[x.Key]; x.Seq <= seq && (!is || x.Seq > best.Seq) {
			newest[x.Key] = x
		}
	}
	var l []api.Change
	for key, x := range newest {
		if !x.Gone {
			l = append(l, api.Change{Key: key, Value: x.Value})
		}
	}
	sort.Slice(l, func(i, k int) bool { return l[i].Key < l[k].Key })
	return l
}

func (m modelTree) levels() []int {
	l := []int{0, 0, 0, 0}
	for _, x := range m.leaves {
		l[x.level]++
	}
	return l
}

func (m modelTree) nextFile() int {
	most := 0
	for _, x := range m.leaves {
		most = max(most, x.number)
	}
	return most + 1
}

// is tells whether such tables and records, each whole by itself, are a tree.
func (m modelTree) is() bool {
	numbers, entries := map[int]bool{}, map[api.Entry]bool{}
	for _, x := range m.leaves {
		if numbers[x.number] {
			return false
		}
		numbers[x.number] = true
	}
	for _, x := range m.tabled() {
		if entries[api.Entry{Key: x.Key, Seq: x.Seq}] {
			return false
		}
		entries[api.Entry{Key: x.Key, Seq: x.Seq}] = true
	}
	flushed := modelMost(m.tabled())
	first := 0
	for i, r := range m.records {
		if i > 0 && r.seq-m.records[i-1].seq != 1 {
			return false
		}
		if first == 0 && r.seq > flushed {
			first = r.seq
		}
	}
	if first > 0 && first-flushed != 1 {
		return false
	}
	return len(m.records) == 0 || m.records[len(m.records)-1].seq >= flushed
}

func modelThin(l []api.Entry, keep int, last bool) []api.Entry {
	var out []api.Entry
	for _, x := range l {
		newer := slices.ContainsFunc(l, func(y api.Entry) bool { return y.Key == x.Key && y.Seq > x.Seq && y.Seq <= keep })
		if x.Seq > keep || !newer && !(x.Gone && last) {
			out = append(out, x)
		}
	}
	return modelSorted(out)
}

// modelStep is a disk and the tree on it, while acts are done one behind the other, up to the first error. It counts what came up on the way.
type modelStep struct {
	disk          api.Disk
	tree          modelTree
	acts          []api.Act
	e             api.Errno
	presses       int
	lasts, allOut int
}

func (s *modelStep) do(acts []api.Act, e api.Errno) {
	if s.e == api.OK && e == api.OK {
		s.disk, e = disk.Do(s.disk, acts)
		s.acts = append(s.acts, acts...)
	}
	if s.e == api.OK && e != api.OK {
		s.e, s.acts = e, nil
	}
}

// turn takes the tables of such names away, and puts one of the entries, if there are some.
func (s *modelStep) turn(names []string, level int, l []api.Entry) {
	var changes []api.Change
	sort.Strings(names)
	for _, name := range names {
		changes = append(changes, api.Change{Key: name, Gone: true})
	}
	if len(l) > 0 {
		b, e := table.Make(modelSorted(l))
		if e != api.OK {
			s.do(nil, e)
			return
		}
		if s.tree.nextFile() > end {
			s.do(nil, api.ErrMany)
			return
		}
		changes = append(changes, api.Change{Key: modelName(level, s.tree.nextFile()), Value: string(b)})
	}
	s.do(files.Turn(s.disk, changes))
}

func (s *modelStep) flush() {
	if l := s.tree.fresh(); len(l) > 0 {
		s.turn(nil, 0, l)
		s.tree.leaves = append(slices.Clone(s.tree.leaves), modelLeaf{0, s.tree.nextFile(), l})
	}
	if len(s.tree.records) > 0 && s.e == api.OK {
		s.do(log.Clear(s.disk))
	}
	s.tree.records = nil
}

func (s *modelStep) press(level, keep int) {
	next := []int{1, 2, 3, 3}[level]
	var these []api.Entry
	var names []string
	rest := modelTree{records: s.tree.records}
	for _, x := range s.tree.leaves {
		if x.level == level || x.level == next {
			these = append(these, x.entries...)
			names = append(names, modelName(x.level, x.number))
		} else {
			rest.leaves = append(rest.leaves, x)
		}
	}
	last := len(rest.leaves) > 0
	for _, x := range rest.tabled() {
		for _, y := range these {
			last = last && x.Seq > y.Seq
		}
	}
	left := modelThin(these, keep, last)
	s.turn(names, next, left)
	if len(left) > 0 {
		rest.leaves = append(rest.leaves, modelLeaf{next, s.tree.nextFile(), left})
	}
	s.presses++
	if last {
		s.lasts++
	}
	if len(left) == 0 {
		s.allOut++
	}
	s.tree = rest
}

func (s *modelStep) put(l []api.Change, keep int) {
	r := modelRecord{s.tree.number() + 1, l}
	text, e := modelWrite(l, r.seq)
	if e == api.OK && (keep < 0 || keep > s.tree.number()) {
		e = api.ErrArg
	}
	if e != api.OK {
		s.do(nil, e)
		return
	}
	if _, e := log.Add(s.disk, text); e == api.ErrSpace {
		s.flush()
		for level := range 3 {
			if s.e == api.OK && s.tree.levels()[level] >= 4 {
				s.press(level, keep)
			}
		}
	}
	if s.e == api.OK {
		s.do(log.Add(s.disk, text))
	}
	s.do([]api.Act{{Flush: true}}, api.OK)
	s.tree.records = append(slices.Clone(s.tree.records), r)
}

// files are the tables of a tree as they are put.
func (m modelTree) files(t testing.TB) []api.Change {
	t.Helper()
	var l []api.Change
	for _, x := range m.leaves {
		l = append(l, api.Change{Key: modelName(x.level, x.number), Value: tableOf(t, x.entries...)})
	}
	return l
}

// sectors is how many its tables have.
func (m modelTree) sectors(t testing.TB) int {
	t.Helper()
	many := 0
	for _, c := range m.files(t) {
		many += (len(c.Value) + 127) / 128
	}
	return many
}

func (m modelTree) texts() []string {
	var l []string
	for _, r := range m.records {
		l = append(l, r.text())
	}
	return l
}

// on is a tree on a disk of so many sectors, all of it for sure.
func (m modelTree) on(t testing.TB, count int) api.Disk {
	t.Helper()
	return laid(t, count, m.files(t), m.texts())
}

func tableOf(t testing.TB, l ...api.Entry) string {
	t.Helper()
	b, e := table.Make(modelSorted(l))
	if e != api.OK {
		t.Fatalf("no table of %d entries: error %d", len(l), e)
	}
	return string(b)
}

// done is a disk behind acts, which must be without an error.
func done(t testing.TB, d api.Disk, acts []api.Act, e api.Errno) api.Disk {
	t.Helper()
	if e != api.OK {
		t.Fatalf("no acts: error %d", e)
	}
	d, e = disk.Do(d, acts)
	if e != api.OK {
		t.Fatalf("Do: error %d", e)
	}
	return d
}

// laid is a disk with such files, and with such records in its log, all for sure.
func laid(t testing.TB, count int, puts []api.Change, records []string) api.Disk {
	t.Helper()
	d, e := files.Format(count)
	if e != api.OK {
		t.Fatalf("Format(%d): error %d", count, e)
	}
	acts, e := log.Clear(d)
	d = done(t, d, acts, e)
	if len(puts) > 0 {
		acts, e := files.Turn(d, puts)
		d = done(t, d, acts, e)
	}
	for _, r := range records {
		acts, e := log.Add(d, r)
		d = done(t, d, acts, e)
	}
	return done(t, d, []api.Act{{Flush: true}}, api.OK)
}

// waiting is a disk that is now as d is, but nothing of it is sure.
func waiting(d api.Disk) api.Disk {
	x := api.Disk{Count: d.Count, Data: make([]byte, len(d.Data))}
	for n := range d.Count {
		b := slices.Clone(d.Data[n*128 : n*128+128])
		if slices.ContainsFunc(b, func(c byte) bool { return c != 0 }) {
			x.Waits = append(x.Waits, api.Put{Sector: n, Data: b})
		}
	}
	return x
}

func drawText(r *rand.Rand, most int) string {
	b := make([]byte, r.Intn(most+1))
	for i := range b {
		b[i] = "\x00\x01\x7f\x80\xffabc"[r.Intn(8)]
	}
	return string(b)
}

// drawKeys are keys that stand close to one another.
func drawKeys(r *rand.Rand, many int) []string {
	seen := map[string]bool{"": true}
	l := []string{}
	for len(l) < many {
		if k := drawText(r, 3); !seen[k] {
			seen[k] = true
			l = append(l, k)
		}
	}
	return l
}

// drawChanges are from 1 to most changes with keys of these.
func drawChanges(r *rand.Rand, keys []string, most, value int) []api.Change {
	var l []api.Change
	for i, n := range r.Perm(len(keys)) {
		if i > 0 && i >= 1+r.Intn(most) {
			break
		}
		c := api.Change{Key: keys[n], Gone: r.Intn(4) == 0}
		if !c.Gone {
			c.Value = drawText(r, value)
		}
		l = append(l, c)
	}
	return l
}

// drawLeaves are tables of which no two entries have the same Key and Seq. If they stand apart, each has numbers of its own, else these are mixed; if they stand together, they have one level.
func drawLeaves(r *rand.Rand, keys []string) []modelLeaf {
	var l []modelLeaf
	seen := map[api.Entry]bool{}
	apart, together, level := r.Intn(2) == 0, r.Intn(3) == 0, r.Intn(3)
	numbers := r.Perm(14)
	many := r.Intn(8)
	for i := range many {
		x := modelLeaf{level: r.Intn(4), number: numbers[i] + 1}
		if apart {
			x.level = []int{3, 2, 1, 0}[i*4/many]
		}
		if together {
			x.level = level
		}
		for range 1 + r.Intn(4) {
			y := api.Entry{Key: keys[r.Intn(len(keys))], Seq: r.Intn(18)}
			if apart {
				y.Seq = 3*i + r.Intn(3)
			}
			if seen[y] {
				continue
			}
			seen[y] = true
			y.Gone = r.Intn(2) == 0
			if !y.Gone {
				y.Value = drawText(r, 5)
			}
			x.entries = append(x.entries, y)
		}
		if len(x.entries) > 0 {
			l = append(l, x)
		}
	}
	return l
}

// drawTree is any tree: also one that no puts, flushes and presses would have made.
func drawTree(r *rand.Rand) (modelTree, []string) {
	keys := drawKeys(r, 6)
	m := modelTree{leaves: drawLeaves(r, keys)}
	flushed := modelMost(m.tabled())
	if r.Intn(4) == 0 {
		return m, keys
	}
	first := max(1, flushed+1-r.Intn(4))
	last := flushed + r.Intn(4)
	for seq := first; seq <= last; seq++ {
		m.records = append(m.records, modelRecord{seq, drawChanges(r, keys, 3, 6)})
	}
	return m, keys
}
