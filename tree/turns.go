package tree

import (
	"errors"

	"docket/api"
	"docket/disk"
	"docket/files"
	"docket/log"
	"docket/merge"
	"docket/table"
)

// full is how many tables a level has when it is pressed for a put.
const full = 4

// flush are the acts that make a table of the fresh entries, and empty the log behind it.
func (t tree) flush() ([]api.Act, error) {
	var acts []api.Act
	if len(t.fresh) > 0 {
		c, err := t.newTable(0, t.fresh)
		if err != nil {
			return nil, fault{"flush", err}
		}
		if acts, err = t.turn([]api.Change{c}); err != nil {
			return nil, fault{"flush", err}
		}
	}
	if t.records > 0 {
		// Asked of the disk ahead: the turn of files leaves the log as it is.
		more, e := log.Clear(t.disk)
		if e != api.OK {
			return nil, fault{"log of a flush", e}
		}
		acts = append(acts, more...)
	}
	return acts, nil
}

// press are the acts that make one table of those of a level and of the next one.
func (t tree) press(level, keep int) ([]api.Act, error) {
	l, err := t.pressing(level, keep)
	if err != nil {
		return nil, fault{"press", err}
	}
	acts, err := t.turn(l)
	if err != nil {
		return nil, fault{"press", err}
	}
	return acts, nil
}

// pressing are the files that a press changes: the tables that go, rising by their names as the tree has them, and then the one that comes, if an entry is left. The last level has none behind it.
func (t tree) pressing(level, keep int) ([]api.Change, error) {
	next := min(level+1, api.MaxLevels-1)
	var l []api.Change
	var these, others []api.Entry
	for _, x := range t.leaves {
		if x.level != level && x.level != next {
			others = append(others, x.entries...)
			continue
		}
		l = append(l, api.Change{Key: x.name, Gone: true})
		these = append(these, x.entries...)
	}
	rise(these)
	left, e := merge.Thin(these, keep, allAbove(others, these))
	if e != api.OK {
		return nil, fault{"entries", e}
	}
	if len(left) == 0 {
		return l, nil
	}
	c, err := t.newTable(next, left)
	if err != nil {
		return nil, err
	}
	return append(l, c), nil
}

// allAbove tells whether there are others, and all of them are newer than these: then nothing lies below these, and the greatest number of all is not among them.
func allAbove(others, these []api.Entry) bool {
	most := 0
	for _, x := range these {
		most = max(most, x.Seq)
	}
	for _, x := range others {
		if x.Seq <= most {
			return false
		}
	}
	return len(others) > 0
}

// newTable is the file of a table that comes.
func (t tree) newTable(level int, l []api.Entry) (api.Change, error) {
	b, e := table.Make(l)
	if e != api.OK {
		return api.Change{}, fault{"table", e}
	}
	n, err := t.nextFile()
	if err != nil {
		return api.Change{}, err
	}
	return api.Change{Key: nameOf(level, n), Value: string(b)}, nil
}

func (t tree) turn(l []api.Change) ([]api.Act, error) {
	acts, e := files.Turn(t.disk, l)
	if e != api.OK {
		return nil, fault{"files", e}
	}
	return acts, nil
}

// nextFile is the number of the next table's file. Behind the greatest that may be there is none: with such a file the disk would be no tree any more.
func (t tree) nextFile() (int, error) {
	most := 0
	for _, x := range t.leaves {
		most = max(most, x.number)
	}
	if most == maxNumber {
		return 0, fault{"number of the next file", api.ErrMany}
	}
	return most + 1, nil
}

func put(d api.Disk, l []api.Change, keep int) ([]api.Act, int, error) {
	t, err := open(d)
	if err != nil {
		return nil, 0, err
	}
	seq := t.number + 1
	record, err := write(l, seq)
	if err != nil {
		return nil, 0, err
	}
	if err := t.checkSeq("keep", keep); err != nil {
		return nil, 0, err
	}
	acts, err := added(d, record)
	if errors.Is(err, api.ErrSpace) {
		acts, err = t.addedWithRoom(record, keep)
	}
	if err != nil {
		return nil, 0, err
	}
	return append(acts, api.Act{Flush: true}), seq, nil
}

func added(d api.Disk, record string) ([]api.Act, error) {
	acts, e := log.Add(d, record)
	if e != api.OK {
		return nil, fault{"log", e}
	}
	return acts, nil
}

// addedWithRoom are the acts that make room in the log, and then add a record.
func (t tree) addedWithRoom(record string, keep int) ([]api.Act, error) {
	w := work{disk: t.disk}
	err := w.do(t.flush())
levels:
	for level := range api.MaxLevels - 1 {
		if err == nil {
			t, err = open(w.disk)
		}
		switch {
		case err != nil:
			break levels
		case t.levels()[level] >= full:
			err = w.do(t.press(level, keep))
		}
	}
	if err == nil {
		err = w.do(added(w.disk, record))
	}
	if err != nil {
		return nil, err
	}
	return w.acts, nil
}

// work is a disk, and the acts by which it came to be what it is.
type work struct {
	disk api.Disk
	acts []api.Act
}

// do does acts behind those that are done, unless an error came up where they were asked for.
func (w *work) do(acts []api.Act, err error) error {
	if err != nil {
		return err
	}
	d, e := disk.Do(w.disk, acts)
	if e != api.OK {
		return fault{"acts", e}
	}
	w.disk, w.acts = d, append(w.acts, acts...)
	return nil
}
