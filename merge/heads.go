package merge

import (
	"container/heap"

	"docket/api"
	"docket/page"
)

// heads are rows with entries as a heap (heap.Interface): the first entry of the first row stands ahead of all others.
type heads [][]api.Entry

func (h heads) Len() int           { return len(h) }
func (h heads) Less(i, k int) bool { return page.Less(h[i][0], h[k][0]) }
func (h heads) Swap(i, k int)      { h[i], h[k] = h[k], h[i] }

func (h *heads) Push(x any) {
	*h = append(*h, x.([]api.Entry))
}

func (h *heads) Pop() any {
	end := len(*h) - 1
	row := (*h)[end]
	*h = (*h)[:end]
	return row
}

// joined are the entries of rows that rise, many in all, in one list. Rows get shorter in the heap alone, not where they came from.
func joined(rows [][]api.Entry, many int) []api.Entry {
	h := &heads{}
	for _, row := range rows {
		if len(row) > 0 {
			heap.Push(h, row)
		}
	}
	out := make([]api.Entry, 0, many)
	for h.Len() > 0 {
		row := (*h)[0]
		out = append(out, row[0])
		if len(row) == 1 {
			heap.Pop(h)
			continue
		}
		(*h)[0] = row[1:]
		heap.Fix(h, 0)
	}
	return out
}
