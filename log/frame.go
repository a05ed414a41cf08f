package log

import (
	"docket/api"
	"docket/bits"
)

// A sector of a record: 16 bytes that tell whose it is, then room for the record's own.
const (
	markSize = 16
	room     = api.Sector - markSize
)

// mark is what the first 16 bytes of a record's sector tell.
type mark struct {
	epoch, salt, prev uint32
	number, count     int
	size              int
}

// found is a record that was read out of sectors; without one all of it is nought.
type found struct {
	text    string
	salt    uint32
	sectors int
}

// Where a sector stands in its record. Each is asked what the next one is, and more.
const (
	inner = iota // others are behind it
	last         // none is behind it, but some ahead
	only         // the record has no other
)

// Frame is a record as it stands in sectors.
func Frame(epoch, salt, prev uint32, record string) ([]byte, api.Errno) {
	if epoch == 0 || salt == 0 {
		return nil, api.ErrArg
	}
	if len(record) > api.MaxRecord {
		return nil, api.ErrText
	}
	return frame(epoch, salt, prev, record), api.OK
}

// Open reads the record at the head of b: its salt, and how many sectors it has; 0: it is torn.
func Open(epoch, prev uint32, b []byte) (record string, salt uint32, sectors int, e api.Errno) {
	if epoch == 0 {
		return "", 0, 0, api.ErrArg
	}
	r := open(epoch, prev, b)
	return r.text, r.salt, r.sectors, api.OK
}

// needs is how many sectors a record has: the empty one needs one too, or nothing would tell that it is there.
func needs(record string) int {
	return max(1, (len(record)+room-1)/room)
}

func frame(epoch, salt, prev uint32, record string) []byte {
	var b []byte
	count := needs(record)
	for i := range count {
		piece := record[i*room : min((i+1)*room, len(record))]
		m := mark{epoch: epoch, salt: salt, prev: prev, number: i, count: count, size: len(piece)}
		s := make([]byte, api.Sector)
		copy(s, m.bytes())
		copy(s[markSize:], piece)
		b = append(b, s...)
	}
	return b
}

// open reads the record that b begins with. Its first sector tells its salt and its count; all of them must then tell the same.
func open(epoch, prev uint32, b []byte) found {
	if len(b) < api.Sector {
		return found{}
	}
	first := markOf(b)
	if first.salt == 0 || first.count == 0 || len(b)/api.Sector < first.count {
		return found{}
	}
	want := mark{epoch: epoch, salt: first.salt, prev: prev, count: first.count}
	var text []byte
	for i := range first.count {
		want.number = i
		piece, ok := part(b[i*api.Sector:][:api.Sector], want)
		if !ok {
			return found{}
		}
		text = append(text, piece...)
	}
	if len(text) > api.MaxRecord {
		return found{}
	}
	return found{text: string(text), salt: first.salt, sectors: first.count}
}

// part is what stands in a sector: the bytes of the record whose mark is wanted, if it is that record's sector in all. Its size is told by the sector alone.
func part(s []byte, want mark) ([]byte, bool) {
	m := markOf(s)
	want.size = m.size
	if m != want {
		return nil, false
	}
	switch m.place() {
	case inner:
		if m.size < room {
			return nil, false
		}
		fallthrough
	case last:
		// A sector of nothing behind others would not be needed.
		if m.size == 0 {
			return nil, false
		}
		fallthrough
	case only:
		if m.size > room || !noughts(s[markSize+m.size:]) {
			return nil, false
		}
	}
	return s[markSize : markSize+m.size], true
}

func (m mark) place() int {
	if m.number < m.count-1 {
		return inner
	}
	if m.number > 0 {
		return last
	}
	return only
}

// bytes and markOf are there and back.
func (m mark) bytes() []byte {
	var b []byte
	for _, n := range []uint32{m.epoch, m.salt, m.prev} {
		b = append(b, bits.Put(uint64(n))[:4]...)
	}
	return append(b, byte(m.number), byte(m.count), byte(m.size), byte(m.size>>8))
}

func markOf(s []byte) mark {
	return mark{
		epoch:  four(s),
		salt:   four(s[4:]),
		prev:   four(s[8:]),
		number: int(s[12]),
		count:  int(s[13]),
		size:   int(s[14]) | int(s[15])<<8,
	}
}

// four is the number of which b begins with the first four bytes.
func four(b []byte) uint32 {
	var eight [8]byte
	copy(eight[:4], b)
	n, _ := bits.Get(eight[:])
	return uint32(n)
}
