package tree

import (
	"slices"
	"strconv"

	"docket/api"
	"docket/bits"
)

// What tells in a record whether a change takes its key away.
const (
	stays = 0
	gone  = 1
)

func write(l []api.Change, seq int) (string, error) {
	if seq < 1 || seq > maxNumber {
		return "", fault{"number", api.ErrArg}
	}
	if len(l) > api.MaxFresh {
		return "", fault{"changes", api.ErrMany}
	}
	if len(l) == 0 {
		return "", fault{"changes", api.ErrNone}
	}
	b := slices.Concat(small(seq), small(len(l)))
	for i, c := range l {
		if err := checkChange(l[:i], c); err != nil {
			return "", fault{"change " + strconv.Itoa(i), err}
		}
		b = appendChange(b, c)
	}
	if len(b) > api.MaxRecord {
		return "", fault{"record", api.ErrText}
	}
	return string(b), nil
}

// checkChange tells what is wrong with a change behind others, nil if it may be there.
func checkChange(ahead []api.Change, c api.Change) error {
	switch {
	case !isKey(c.Key):
		return fault{"key", api.ErrKey}
	case len(c.Value) > api.MaxValue:
		return fault{"value", api.ErrText}
	case c.Gone && c.Value != "":
		return fault{"value of what is gone", api.ErrBad}
	case slices.ContainsFunc(ahead, func(x api.Change) bool { return x.Key == c.Key }):
		return fault{"key again", api.ErrBad}
	}
	return nil
}

func isKey(s string) bool {
	return len(s) >= 1 && len(s) <= api.MaxKey
}

func appendChange(b []byte, c api.Change) []byte {
	b = append(b, bits.Text(c.Key)...)
	if c.Gone {
		return append(b, gone)
	}
	b = append(b, stays)
	return append(b, bits.Text(c.Value)...)
}

func small(n int) []byte {
	return bits.Small(uint64(n))
}

// read takes out of a record what stands where. All else Write tells: it is a record, if it is that of its changes.
func read(record string) ([]api.Change, int, error) {
	if len(record) > api.MaxRecord {
		return nil, 0, fault{"length of a record", api.ErrBad}
	}
	l, seq, ok := cutRecord([]byte(record))
	if !ok {
		return nil, 0, fault{"bytes of a record", api.ErrBad}
	}
	if again, err := write(l, seq); err != nil || again != record {
		return nil, 0, fault{"changes of a record", api.ErrBad}
	}
	return l, seq, nil
}

func cutRecord(b []byte) ([]api.Change, int, bool) {
	seq, b, ok := cutNumber(b, maxNumber)
	if !ok {
		return nil, 0, false
	}
	many, b, ok := cutNumber(b, api.MaxFresh)
	if !ok {
		return nil, 0, false
	}
	var l []api.Change
	for range many {
		var c api.Change
		if c, b, ok = cutChange(b); !ok {
			return nil, 0, false
		}
		l = append(l, c)
	}
	return l, seq, true
}

// cutNumber reads a number that is not above limit.
func cutNumber(b []byte, limit int) (int, []byte, bool) {
	n, k, e := bits.Read(b)
	// Compared as it is: a number near 2^64 would be below 0 as an int.
	if e != api.OK || n > uint64(limit) {
		return 0, nil, false
	}
	return int(n), b[k:], true
}

func cutChange(b []byte) (api.Change, []byte, bool) {
	key, b, e := bits.Cut(b)
	if e != api.OK || len(b) == 0 {
		return api.Change{}, nil, false
	}
	c := api.Change{Key: key, Gone: b[0] != stays}
	b = b[1:]
	if c.Gone {
		return c, b, true
	}
	c.Value, b, e = bits.Cut(b)
	return c, b, e == api.OK
}
