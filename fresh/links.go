package fresh

import (
	"math/bits"

	"docket/api"
	"docket/page"
)

// maxHeight is enough for MaxEntries: at the greatest height one or two of them are left.
const maxHeight = 12

// node is an entry with the next node at each of its heights: it has as many as it is high.
type node struct {
	entry api.Entry
	next  []*node
}

// links are entries that rise. At the least height all of them are linked; at each one above only some, so that most are passed over on the way to one.
type links struct {
	head *node // has no entry, and stands ahead of all at every height
	many int
}

func newLinks() *links {
	return &links{head: &node{next: make([]*node, maxHeight)}}
}

// height is that of the nth entry that is put: every second one has a second height, every fourth a third, and so on. So heights hang on nothing but how many were put, and need no chance.
func height(n int) int {
	return min(maxHeight, 1+bits.TrailingZeros(uint(n)))
}

// ahead is, at each height, the last node that stands ahead of x.
func (l *links) ahead(x api.Entry) [maxHeight]*node {
	var last [maxHeight]*node
	n := l.head
	for h := maxHeight - 1; h >= 0; h-- {
		for n.next[h] != nil && page.Less(n.next[h].entry, x) {
			n = n.next[h]
		}
		last[h] = n
	}
	return last
}

// notAhead is the first node that does not stand ahead of x; nil, if all do.
func (l *links) notAhead(x api.Entry) *node {
	return l.ahead(x)[0].next[0]
}

// put links an entry that may be.
func (l *links) put(x api.Entry) api.Errno {
	ahead := l.ahead(x)
	if next := ahead[0].next[0]; next != nil && same(next.entry, x) {
		return api.ErrOrder
	}
	if l.many == api.MaxEntries {
		return api.ErrMany
	}
	l.many++
	n := &node{x, make([]*node, height(l.many))}
	for h := range n.next {
		n.next[h] = ahead[h].next[h]
		ahead[h].next[h] = n
	}
	return api.OK
}

func (l *links) all() []api.Entry {
	out := make([]api.Entry, 0, l.many)
	for n := l.head.next[0]; n != nil; n = n.next[0] {
		out = append(out, n.entry)
	}
	return out
}
