package tree

import (
	"slices"
	"sort"
	"strconv"

	"docket/api"
	"docket/disk"
	"docket/files"
	"docket/fresh"
	"docket/log"
	"docket/merge"
	"docket/page"
	"docket/table"
)

// leaf is a table of the tree, and its file.
type leaf struct {
	name          string
	level, number int
	entries       []api.Entry
}

// tree is a disk that is one, read.
type tree struct {
	disk    api.Disk
	leaves  []leaf // rising by their names
	records int    // how many the log has, those that count for nothing among them
	fresh   []api.Entry
	entries []api.Entry // those of all tables, and the fresh ones
	number  int
}

// open reads all that a disk has, and tells why it is no tree, if it is none.
func open(d api.Disk) (tree, error) {
	if e := disk.Check(d); e != api.OK {
		return tree{}, fault{"disk", e}
	}
	names, e := files.Names(d)
	if e != api.OK {
		return tree{}, fault{"files", e}
	}
	records, e := log.Records(d)
	if e != api.OK {
		return tree{}, fault{"log", e}
	}
	t := tree{disk: d, records: len(records)}
	if err := t.readLeaves(names); err != nil {
		return tree{}, noTree{err}
	}
	if err := t.readRecords(records); err != nil {
		return tree{}, noTree{err}
	}
	return t, nil
}

// readLeaves reads the tables. Behind it the tree's entries are theirs alone, and its number is the flushed one.
func (t *tree) readLeaves(names []string) error {
	for _, name := range names {
		x, err := readLeaf(t.disk, name)
		if err != nil {
			return fault{"file " + name, err}
		}
		if slices.ContainsFunc(t.leaves, func(y leaf) bool { return y.number == x.number }) {
			return fault{"number of file " + name, api.ErrBad}
		}
		t.leaves = append(t.leaves, x)
		t.entries = append(t.entries, x.entries...)
	}
	rise(t.entries)
	for i, x := range t.entries {
		// They stand as they can: only one with the Key and Seq of the next one is not ahead of it.
		if i > 0 && !page.Less(t.entries[i-1], x) {
			return fault{"key " + strconv.Quote(x.Key), api.ErrOrder}
		}
		t.number = max(t.number, x.Seq)
	}
	return nil
}

func readLeaf(d api.Disk, name string) (leaf, error) {
	level, number, ok := cutName(name)
	if !ok {
		return leaf{}, fault{"name", api.ErrName}
	}
	b, e := files.Get(d, name)
	if e != api.OK {
		return leaf{}, fault{"bytes", e}
	}
	l, e := table.All(b)
	if e != api.OK {
		return leaf{}, fault{"entries", e}
	}
	return leaf{name, level, number, l}, nil
}

func nameOf(level, number int) string {
	return "l" + strconv.Itoa(level) + "." + strconv.Itoa(number)
}

// cutName is the level and the number of which a name is made, if it is a table's.
func cutName(name string) (level, number int, ok bool) {
	if len(name) < len("l0.1") {
		return 0, 0, false
	}
	level = int(name[1]) - '0'
	number, err := strconv.Atoi(name[len("l0."):])
	if err != nil || level < 0 || level >= api.MaxLevels || number < 1 || number > maxNumber {
		return 0, 0, false
	}
	// Made anew it is another one, if it has noughts ahead, or other bytes where l and the point must be.
	return level, number, name == nameOf(level, number)
}

// readRecords reads what is new, behind the tables: the tree's number is the flushed one till then.
func (t *tree) readRecords(records []string) error {
	flushed, ahead := t.number, 0
	var rows [][]api.Entry
	for i, r := range records {
		l, seq, err := read(r)
		if err != nil {
			return fault{"record " + strconv.Itoa(i), err}
		}
		if i > 0 && seq != ahead+1 || i == 0 && seq > flushed+1 {
			return fault{"number of record " + strconv.Itoa(i), api.ErrOrder}
		}
		ahead = seq
		// What a loss of power left in the log behind a flush is in a table already.
		if seq > flushed {
			rows = append(rows, rowOf(l, seq))
		}
	}
	if len(records) > 0 && ahead < flushed {
		return fault{"number of the last record", api.ErrOrder}
	}
	// No error is left: a log has fewer records than may be rows, and no two entries of one key have one number.
	t.fresh, _ = merge.All(rows)
	t.entries = append(t.entries, t.fresh...)
	rise(t.entries)
	t.number = max(flushed, ahead)
	return nil
}

// rowOf are the changes of a record as entries that rise. They are what Write takes, so that there is no error to tell.
func rowOf(l []api.Change, seq int) []api.Entry {
	row := fresh.New()
	for _, c := range l {
		row.Put(api.Entry{Key: c.Key, Value: c.Value, Seq: seq, Gone: c.Gone})
	}
	all, _ := row.All()
	return all
}

// rise puts entries in order. They may be more than merge takes.
func rise(l []api.Entry) {
	sort.Slice(l, func(i, k int) bool { return page.Less(l[i], l[k]) })
}

// newest is the newest of a key at a number, if there is one.
func (t tree) newest(key string, seq int) (api.Entry, bool) {
	asked := api.Entry{Key: key, Seq: seq}
	i := sort.Search(len(t.entries), func(i int) bool { return !page.Less(t.entries[i], asked) })
	if i == len(t.entries) || t.entries[i].Key != key {
		return api.Entry{}, false
	}
	return t.entries[i], true
}

// between is what counts at a number, from one key up to ahead of another one; if that has no byte, all from there on.
func (t tree) between(from, to string, seq int) []api.Change {
	var out []api.Change
	told := "" // the last key whose newest was met; none is empty
	for _, x := range t.entries {
		if x.Seq > seq || x.Key == told {
			continue
		}
		told = x.Key
		if !x.Gone && x.Key >= from && (to == "" || x.Key < to) {
			out = append(out, api.Change{Key: x.Key, Value: x.Value})
		}
	}
	return out
}

// checkSeq tells whether a number is one at which the tree can be asked.
func (t tree) checkSeq(place string, seq int) error {
	if seq < 0 || seq > t.number {
		return fault{place, api.ErrArg}
	}
	return nil
}

// levels is how many tables each level has.
func (t tree) levels() []int {
	l := make([]int, api.MaxLevels)
	for _, x := range t.leaves {
		l[x.level]++
	}
	return l
}
