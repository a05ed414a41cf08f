package batch

import (
	"slices"
	"strings"

	"docket/api"
	"docket/disk"
	"docket/tree"
)

// maxLooks is how many looks are there at once at most, but for the look 0.
const maxLooks = 64

// kept is what a store keeps.
type kept struct {
	disk   api.Disk
	number int         // the tree's: opening the disk would tell it too, but reads all of it
	looks  map[int]int // the moments of the looks that are there, by their numbers; the look 0 is none of them
	last   int         // the number of the look that was taken last: a dropped one's does not come again
}

func (k *kept) look() (int, api.Errno) {
	if len(k.looks) >= maxLooks {
		return 0, api.ErrMany
	}
	k.last++
	k.looks[k.last] = k.number
	return k.last, api.OK
}

func (k *kept) drop(look int) api.Errno {
	if _, is := k.looks[look]; !is {
		return api.ErrSnap
	}
	delete(k.looks, look)
	return api.OK
}

// moment is the tree's number at which a look tells how it stood.
func (k *kept) moment(look int) (int, api.Errno) {
	if look == 0 {
		return k.number, api.OK
	}
	moment, is := k.looks[look]
	if !is {
		return 0, api.ErrSnap
	}
	return moment, api.OK
}

// keep is the least number that a look may still ask for.
func (k *kept) keep() int {
	least := k.number
	for _, moment := range k.looks {
		least = min(least, moment)
	}
	return least
}

func (k *kept) put(look int, l []api.Change) api.Errno {
	acts, number, e := k.acts(look, l)
	if e != api.OK {
		return e
	}
	d, e := disk.Do(k.disk, acts)
	if e != api.OK {
		return e
	}
	k.disk, k.number = d, number
	return api.OK
}

// acts are those that put changes, and the tree's number behind them.
func (k *kept) acts(look int, l []api.Change) ([]api.Act, int, api.Errno) {
	moment, e := k.moment(look)
	if e != api.OK {
		return nil, 0, e
	}
	// Changes that may not be are refused as such, whatever has happened to their keys: tree.Put alone would tell it behind a race.
	if _, e := tree.Write(l, k.number+1); e != api.OK {
		return nil, 0, e
	}
	if e := k.checkRace(l, moment); e != api.OK {
		return nil, 0, e
	}
	return tree.Put(k.disk, l, k.keep())
}

// checkRace looks for a key of changes that has changed since a moment. All that counts then and now is told once, not key by key: each call of the tree reads the whole disk.
func (k *kept) checkRace(l []api.Change, moment int) api.Errno {
	if moment == k.number {
		return api.OK
	}
	then, e := tree.Range(k.disk, "", "", moment)
	if e != api.OK {
		return e
	}
	now, e := tree.Range(k.disk, "", "", k.number)
	if e != api.OK {
		return e
	}
	for _, c := range l {
		if counting(then, c.Key) != counting(now, c.Key) {
			return api.ErrRace
		}
	}
	return api.OK
}

// counting is what counts of a key among changes that rise. If there is nothing, it has no Key, and so is not what counts with an empty Value.
func counting(l []api.Change, key string) api.Change {
	i, is := slices.BinarySearchFunc(l, key, func(c api.Change, key string) int { return strings.Compare(c.Key, key) })
	if !is {
		return api.Change{}
	}
	return l[i]
}
