package node

import (
	"bytes"

	"parchment/api"
)

// Span is which keys a node may have below it: from Low on, and below High; where High is of no bytes, of any height.
type Span struct{ Low, High []byte }

// Below is which keys the child at a place of a row, as the keys stand, may have.
func (s Span) Below(row []api.Cell, at int) Span {
	if at > 0 {
		s.Low = row[at].Key
	}
	if at+1 < len(row) {
		s.High = row[at+1].Key
	}
	return s
}

// Fits is whether the keys of a node of some level, as they stand, are all different, and of the span; but for its first child's, of no bytes.
func (s Span) Fits(level int, row []api.Cell) bool {
	if level > 0 {
		row = row[1:]
	}
	for at, c := range row {
		if at > 0 && bytes.Equal(row[at-1].Key, c.Key) {
			return false
		}
		if bytes.Compare(c.Key, s.Low) < 0 || len(s.High) > 0 && bytes.Compare(c.Key, s.High) >= 0 {
			return false
		}
	}
	return true
}
