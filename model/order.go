package model

import "slices"

// line lets places into the order, one by one.
type line struct {
	left   map[side]int      // how many places of a side are not in the order yet
	waits  map[[3]int]int    // for how many sides a place still waits
	behind map[side][][3]int // which places wait for a side
	ready  [][3]int          // those that wait for none, and are not in the order yet; rising
}

func newLine(l []posted, w web) *line {
	q := &line{left: map[side]int{}, waits: map[[3]int]int{}, behind: map[side][][3]int{}}
	for _, p := range l {
		q.left[sideOf(p.at)]++
	}
	for _, p := range l {
		for s := range w[p.at] {
			// Without sentries nothing on that side comes about.
			if q.left[s] > 0 {
				q.waits[p.at]++
				q.behind[s] = append(q.behind[s], p.at)
			}
		}
		if q.waits[p.at] == 0 {
			q.ready = append(q.ready, p.at)
		}
	}
	return q
}

// order is false, if some places wait for each other, so that they never get ready.
func (q *line) order() ([][3]int, bool) {
	var l [][3]int
	for len(q.ready) > 0 {
		least := q.ready[0]
		q.ready = q.ready[1:]
		l = append(l, least)
		q.leave(sideOf(least))
	}
	for _, n := range q.left {
		if n > 0 {
			return nil, false
		}
	}
	return l, true
}

// leave takes one place off a side; with its last one, those that waited for it may get ready.
func (q *line) leave(s side) {
	q.left[s]--
	if q.left[s] > 0 {
		return
	}
	for _, place := range q.behind[s] {
		q.waits[place]--
		if q.waits[place] == 0 {
			q.ready = append(q.ready, place)
		}
	}
	slices.SortFunc(q.ready, rising)
}

func rising(a, b [3]int) int { return slices.Compare(a[:], b[:]) }
