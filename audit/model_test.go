package audit

import (
	"crypto/sha256"
	"encoding/binary"
	"fmt"
	"math"
	"math/rand"
	"regexp"
	"slices"
	"strings"

	"docket/api"
)

// What the chapter says, told once more by other means: bytes and digests come out of the library, and a record is held against the one ahead field by field. The model calls none of the package's functions.

const zeros = "0000000000000000000000000000000000000000000000000000000000000000"

var wellHash = regexp.MustCompile(`\A[0-9a-f]{64}\z`)

func modelBytes(r api.Record, before string) string {
	b := binary.AppendUvarint(nil, uint64(len(before)))
	b = append(b, before...)
	for _, n := range []int{r.Seq, r.At, r.Outcome} {
		b = binary.LittleEndian.AppendUint64(b, uint64(n))
	}
	for _, s := range []string{r.User, r.Deed} {
		b = binary.AppendUvarint(b, uint64(len(s)))
		b = append(b, s...)
	}
	return string(b)
}

func modelHash(r api.Record, before string) string {
	return fmt.Sprintf("%x", sha256.Sum256([]byte(modelBytes(r, before))))
}

func modelMay(r api.Record) bool {
	return r.Seq >= 0 && r.At >= 0 && r.At <= 1<<40 && len(r.User) <= 32 && len(r.Deed) <= 16384 && r.Outcome >= 100 && r.Outcome <= 599 && wellHash.MatchString(r.Hash)
}

func modelText(r api.Record, before string) (string, api.Errno) {
	switch {
	case !modelMay(r):
		return "", api.ErrBad
	case !wellHash.MatchString(before):
		return "", api.ErrText
	}
	return modelBytes(r, before), api.OK
}

func modelRefused(l []api.Record) api.Errno {
	switch {
	case len(l) > 4096:
		return api.ErrMany
	case slices.ContainsFunc(l, func(r api.Record) bool { return !modelMay(r) }):
		return api.ErrBad
	}
	return api.OK
}

func modelCheck(l []api.Record) (int, api.Errno) {
	if e := modelRefused(l); e != api.OK {
		return 0, e
	}
	before, at := zeros, 0
	for i, r := range l {
		if r.Seq != i || r.At < at || r.Hash != modelHash(r, before) {
			return i, api.OK
		}
		before, at = r.Hash, r.At
	}
	return -1, api.OK
}

// modelAdded is l with one more record, whatever l and that record are: its digest fits, all else is as it is told.
func modelAdded(l []api.Record, at int, user, deed string, outcome int) []api.Record {
	before := zeros
	if len(l) > 0 {
		before = l[len(l)-1].Hash
	}
	r := api.Record{Seq: len(l), At: at, User: user, Deed: deed, Outcome: outcome}
	r.Hash = modelHash(r, before)
	return append(slices.Clone(l), r)
}

func modelNext(l []api.Record, at int, user, deed string, outcome int) ([]api.Record, api.Errno) {
	if e := modelRefused(l); e != api.OK {
		return nil, e
	}
	if at < 0 || at > 1<<40 {
		return nil, api.ErrArg
	}
	if len(user) > 32 || len(deed) > 16384 {
		return nil, api.ErrText
	}
	if outcome < 100 || outcome > 599 {
		return nil, api.ErrArg
	}
	if len(l) == 4096 {
		return nil, api.ErrMany
	}
	if n, _ := modelCheck(l); n != -1 || len(l) > 0 && at < l[len(l)-1].At {
		return nil, api.ErrChain
	}
	return modelAdded(l, at, user, deed, outcome), api.OK
}

func modelRange(l []api.Record, from, count int) ([]api.Record, api.Errno) {
	if e := modelRefused(l); e != api.OK {
		return nil, e
	}
	if from < 0 || count < 0 {
		return nil, api.ErrArg
	}
	var some []api.Record
	for i, r := range l {
		if i >= from && len(some) < count {
			some = append(some, r)
		}
	}
	return some, api.OK
}

func modelHead(l []api.Record) (string, api.Errno) {
	if e := modelRefused(l); e != api.OK {
		return "", e
	}
	if len(l) == 0 {
		return zeros, api.OK
	}
	return l[len(l)-1].Hash, api.OK
}

// chars is a text of n bytes c.
func chars(n int, c byte) string { return strings.Repeat(string([]byte{c}), n) }

// plain is a chain of n records that is well, by a rule; moments stand still now and then.
func plain(n int) []api.Record {
	l := make([]api.Record, 0, n)
	before := zeros
	for i := range n {
		r := api.Record{Seq: i, At: 10 + i/2, User: []string{"ann", "", "bob-7"}[i%3], Deed: fmt.Sprint("raise ", i), Outcome: 200 + i%300}
		r.Hash = modelHash(r, before)
		before = r.Hash
		l = append(l, r)
	}
	return l
}

// again tells the digests of l anew, from the number from on, so that all else that was turned is left to be found.
func again(l []api.Record, from int) {
	before := zeros
	if from > 0 {
		before = l[from-1].Hash
	}
	for i := from; i < len(l); i++ {
		l[i].Hash = modelHash(l[i], before)
		before = l[i].Hash
	}
}

func drawBytes(r *rand.Rand, n int) string {
	b := make([]byte, n)
	for i := range b {
		b[i] = byte(r.Intn(256))
	}
	return string(b)
}

// drawSize is often one of the edges: none, those at which a text's length takes one more byte, and the greatest.
func drawSize(r *rand.Rand, most int) int {
	edges := []int{0, 1, 127, 128, 129, most - 1, most}
	if r.Intn(16) == 0 {
		return min(edges[r.Intn(len(edges))], most)
	}
	return r.Intn(min(most, 24) + 1)
}

func drawOutcome(r *rand.Rand) int {
	return []int{100, 101, 200, 200, 401, 403, 409, 507, 598, 599, 100 + r.Intn(500)}[r.Intn(11)]
}

// drawChain is a chain that is well; its moments stand still often, and end at the greatest one now and then.
func drawChain(r *rand.Rand, n int) []api.Record {
	var l []api.Record
	at := 0
	for range n {
		switch r.Intn(8) {
		case 0, 1, 2:
			at += r.Intn(3)
		case 3:
			at += r.Intn(1 << 30)
		case 4:
			if r.Intn(20) == 0 {
				at = api.MaxClock
			}
		}
		at = min(at, api.MaxClock)
		l = modelAdded(l, at, drawBytes(r, drawSize(r, api.MaxName)), drawBytes(r, drawSize(r, api.MaxText)), drawOutcome(r))
	}
	return l
}

// drawOther is a number other than n, that may be, but for those that are taken too great or too small now and then.
func drawOther(r *rand.Rand, n, low, high int) int {
	for {
		x := []int{n - 1, n + 1, low, high, low + r.Intn(high-low+1), n ^ 1<<r.Intn(40)}[r.Intn(6)]
		if r.Intn(8) == 0 {
			x = []int{low - 1, high + 1, math.MinInt, math.MaxInt, -n}[r.Intn(5)]
		}
		if x != n {
			return x
		}
	}
}

// drawOtherText is a text other than s: one byte more, one less, one turned, or all others.
func drawOtherText(r *rand.Rand, s string, most int) string {
	for {
		x := drawBytes(r, drawSize(r, most+1))
		switch at := r.Intn(len(s) + 1); r.Intn(4) {
		case 0:
			x = s[:at] + drawBytes(r, 1) + s[at:]
		case 1:
			x = s[:at] + s[min(at+1, len(s)):]
		case 2:
			if at < len(s) {
				x = s[:at] + string([]byte{s[at] ^ 1<<r.Intn(8)}) + s[at+1:]
			}
		}
		if x != s {
			return x
		}
	}
}

// turnField turns one field of a record, its Hash left; the record may not be any more now and then.
func turnField(r *rand.Rand, x api.Record) api.Record {
	switch r.Intn(5) {
	case 0:
		x.Seq = drawOther(r, x.Seq, 0, 1<<12)
	case 1:
		x.At = drawOther(r, x.At, 0, api.MaxClock)
	case 2:
		x.User = drawOtherText(r, x.User, api.MaxName)
	case 3:
		x.Deed = drawOtherText(r, x.Deed, api.MaxText)
	default:
		x.Outcome = drawOther(r, x.Outcome, 100, 599)
	}
	return x
}
