package log

import (
	"math/bits"

	"parchment/api"
)

// How many bytes a record's parts have.
const (
	headSize = 18
	ownSize  = 17 // what the bodies of all kinds begin with
	nextSize = 8
	spanSize = 8 // a span, but for its bytes
)

// The sum stands last in the head, so that it can go over all that is ahead of it.
const sumAt = 14

const (
	maxPlace = 1 << 62
	maxTurn  = 1<<31 - 1
)

// polynomial is CRC-32's, reversed.
const polynomial = 0xEDB88320

// number is what is written highest byte first; how many bytes it takes is its type's own.
type number interface {
	uint8 | uint16 | uint32 | uint64
}

// Put is a record's bytes.
func Put(r api.Record) ([]byte, api.Errno) {
	if !right(r) {
		return nil, api.ErrShape
	}
	own := body(r)
	out := make([]byte, 0, headSize+len(own))
	out = put(out, uint64(r.Lsn))
	out = put(out, uint32(r.Turn))
	out = put(out, uint16(len(own)))
	out = put(out, sum(out, own))
	return append(out, own...), api.OK
}

// Get is the record whose bytes b begins with, and how many these are.
func Get(b []byte) (api.Record, int, api.Errno) {
	if len(b) < headSize {
		return api.Record{}, 0, api.ErrShape
	}
	head, rest := b[:headSize], b[headSize:]
	r := api.Record{Lsn: int64(take[uint64](&head)), Turn: int64(take[uint32](&head))}
	size := int(take[uint16](&head))
	if size > len(rest) || take[uint32](&head) != sum(b[:sumAt], rest[:size]) {
		return api.Record{}, 0, api.ErrShape
	}
	if !readBody(&r, rest[:size]) || !right(r) {
		return api.Record{}, 0, api.ErrShape
	}
	return r, headSize + size, api.OK
}

// right is whether a record may be. A number that was read from 8 bytes may be below nought here, and is none then.
func right(r api.Record) bool {
	if r.Lsn < 1 || r.Lsn > maxPlace || r.Turn < 1 || r.Turn > maxTurn || !isPlace(r.Tx) || !isPlace(r.Prev) {
		return false
	}
	s := r.Span
	switch r.Kind {
	case api.RecChange:
		return r.Next == 0 && fits(s) && len(s.Old) == len(s.New)
	case api.RecUndo:
		return isPlace(r.Next) && fits(s) && len(s.Old) == 0
	case api.RecCommit, api.RecAbort:
		return r.Next == 0 && s.Block == 0 && s.Off == 0 && len(s.Old) == 0 && len(s.New) == 0
	}
	return false
}

func isPlace(n int64) bool {
	return n >= 0 && n <= maxPlace
}

// fits is whether a span's new bytes lie on a page of a device.
func fits(s api.Span) bool {
	return s.Block >= 0 && s.Block < api.MaxBlocks && s.Off >= 0 && len(s.New) > 0 && s.Off <= api.BlockSize-len(s.New)
}

// body is what stands behind the head of a right record.
func body(r api.Record) []byte {
	s := r.Span
	out := make([]byte, 0, ownSize+nextSize+spanSize+len(s.Old)+len(s.New))
	out = put(out, uint8(r.Kind))
	out = put(out, uint64(r.Tx))
	out = put(out, uint64(r.Prev))
	if r.Kind == api.RecUndo {
		out = put(out, uint64(r.Next))
	}
	if len(s.New) == 0 {
		return out
	}
	out = put(out, uint32(s.Block))
	out = put(out, uint16(s.Off))
	out = put(out, uint16(len(s.New)))
	out = append(out, s.Old...)
	return append(out, s.New...)
}

// readBody takes a record's other fields from its body; false, if there are fewer bytes than its kind has, or more.
func readBody(r *api.Record, b []byte) bool {
	if len(b) < ownSize {
		return false
	}
	r.Kind = api.RecordKind(take[uint8](&b))
	r.Tx = int64(take[uint64](&b))
	r.Prev = int64(take[uint64](&b))
	switch r.Kind {
	case api.RecChange:
		return readSpan(&r.Span, b, true)
	case api.RecUndo:
		if len(b) < nextSize {
			return false
		}
		r.Next = int64(take[uint64](&b))
		return readSpan(&r.Span, b, false)
	}
	return len(b) == 0
}

// readSpan takes a span from just these bytes, with old ones or without.
func readSpan(s *api.Span, b []byte, withOld bool) bool {
	if len(b) < spanSize {
		return false
	}
	s.Block = int(take[uint32](&b))
	s.Off = int(take[uint16](&b))
	size := int(take[uint16](&b))
	old := 0
	if withOld {
		old = size
	}
	if len(b) != old+size {
		return false
	}
	s.Old = copied(b[:old])
	s.New = copied(b[old:])
	return true
}

// put is a row with a number behind it.
func put[N number](row []byte, n N) []byte {
	for shift := 8 * (width[N]() - 1); shift >= 0; shift -= 8 {
		row = append(row, byte(n>>shift))
	}
	return row
}

// take is the number that a row begins with, which has its bytes; it is cut off the row.
func take[N number](row *[]byte) N {
	var n uint64
	for _, b := range (*row)[:width[N]()] {
		n = n<<8 | uint64(b)
	}
	*row = (*row)[width[N]():]
	return N(n)
}

// width is how many bytes a number of that type takes.
func width[N number]() int {
	return bits.Len64(uint64(^N(0))) / 8
}

// sum is the CRC-32 of rows, as of one row.
func sum(rows ...[]byte) uint32 {
	all := ^uint32(0)
	for _, row := range rows {
		for _, b := range row {
			all ^= uint32(b)
			for range 8 {
				// -(all & 1) is all ones or none: the polynomial counts where a one is shifted out.
				all = all>>1 ^ polynomial&-(all&1)
			}
		}
	}
	return ^all
}

func copied(b []byte) []byte {
	if len(b) == 0 {
		return nil
	}
	out := make([]byte, len(b))
	copy(out, b)
	return out
}
