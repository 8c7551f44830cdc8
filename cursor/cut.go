package cursor

import (
	"bytes"
	"iter"
	"slices"

	"parchment/api"
)

// cut lies ahead of a key, or behind it; ahead of no bytes it lies ahead of all keys.
type cut struct {
	key    []byte
	behind bool
}

// ahead is how many cells of a row, as the keys stand, lie ahead of a cut.
func (c cut) ahead(row []api.Cell) int {
	at, is := slices.BinarySearchFunc(row, c.key, func(x api.Cell, key []byte) int { return bytes.Compare(x.Key, key) })
	if is && c.behind {
		at++
	}
	return at
}

// side is to which side of a cut a cursor goes: it says what the next place of a row is.
type side int

const (
	onward   side = 1
	backward side = -1
)

// first is the place of a row that is the next one on a side of a cut, ahead of which so many lie.
func (to side) first(ahead int) int {
	if to == backward {
		return ahead - 1
	}
	return ahead
}

// places goes through those of a row of so many, from one on.
func (to side) places(at, many int) iter.Seq[int] {
	return func(yield func(int) bool) {
		for at := at; at >= 0 && at < many && yield(at); at += int(to) {
		}
	}
}
