package btree

import (
	"bytes"
	"slices"

	"parchment/api"
)

// On a page a cell is how many bytes its key has, the key, the value.
const (
	keySize   = 1
	childSize = 2   // of a value that is a child's number, the higher byte first
	slotSize  = 2   // of how many bytes a page says ahead of each cell that it has (chapter 9)
	room      = 506 // of a page without cells
)

func isKey(key []byte) bool {
	return len(key) >= 1 && len(key) <= api.MaxKey
}

// isCell is whether a tree may have such a cell.
func isCell(c api.Cell) bool {
	return isKey(c.Key) && len(c.Key)+len(c.Value) <= api.MaxCell
}

func writtenCell(c api.Cell) []byte {
	out := make([]byte, 0, keySize+len(c.Key)+len(c.Value))
	out = append(out, byte(len(c.Key)))
	out = append(out, c.Key...)
	return append(out, c.Value...)
}

// readCell is the cell that bytes of a page are, if they are one.
func readCell(b []byte) (api.Cell, bool) {
	if len(b) < keySize {
		return api.Cell{}, false
	}
	end := keySize + int(b[0])
	if end > len(b) {
		return api.Cell{}, false
	}
	return api.Cell{Key: b[keySize:end:end], Value: b[end:]}, true
}

// number is the child that a value tells.
func number(value []byte) int {
	return int(value[0])<<8 | int(value[1])
}

func numbered(child int) []byte {
	return []byte{byte(child >> 8), byte(child)}
}

// size is how much of a page's room a row takes.
func size(row []api.Cell) int {
	all := 0
	for _, c := range row {
		all += slotSize + keySize + len(c.Key) + len(c.Value)
	}
	return all
}

// place is where a key's cell stands in a row, if there is one.
func place(row []api.Cell, key []byte) (int, bool) {
	at := slices.IndexFunc(row, func(c api.Cell) bool { return bytes.Equal(c.Key, key) })
	return max(at, 0), at >= 0
}

// toward is where the child stands in a row below which a key's cell is, if there is one: it has the highest key that is not above that. (No key is below the first child's.)
func toward(row []api.Cell, key []byte) int {
	found := -1
	for at, c := range row {
		if bytes.Compare(c.Key, key) <= 0 && (found < 0 || bytes.Compare(c.Key, row[found].Key) > 0) {
			found = at
		}
	}
	return found
}

// with is a row with a cell, in the place of one with its key, or behind all.
func with(row []api.Cell, c api.Cell) []api.Cell {
	at, is := place(row, c.Key)
	if !is {
		return append(row[:len(row):len(row)], c)
	}
	return append(append(row[:at:at], c), row[at+1:]...)
}

// without is a row without one of its cells.
func without(row []api.Cell, at int) []api.Cell {
	return append(row[:at:at], row[at+1:]...)
}

// ordered is a row as its keys stand.
func ordered(row []api.Cell) []api.Cell {
	out := slices.Clone(row)
	slices.SortFunc(out, func(x, y api.Cell) int { return bytes.Compare(x.Key, y.Key) })
	return out
}

// lifted is the row of a node that others come ahead of: its first child, if it has children, gets an edge for its key.
func lifted(row []api.Cell, edge []byte) []api.Cell {
	at, is := place(row, nil)
	if !is {
		return row
	}
	return append(without(row, at), api.Cell{Key: edge, Value: row[at].Value})
}

// cut is a row in two, and an edge: all keys on the left are below it, none on the right is. Of leaves it is as short as may be, so that the pages above have room for many.
func cut(level int, row []api.Cell, at int) (left []api.Cell, edge []byte, right []api.Cell) {
	left, right = row[:at:at], row[at:len(row):len(row)]
	if level == 0 {
		return left, between(left[at-1].Key, right[0].Key), right
	}
	first := api.Cell{Value: right[0].Value}
	return left, right[0].Key, append([]api.Cell{first}, right[1:]...)
}

// between is the shortest key that is above low and not above high.
func between(low, high []byte) []byte {
	alike := 0
	for alike < min(len(low), len(high)) && low[alike] == high[alike] {
		alike++
	}
	return high[:min(alike+1, len(high))]
}

// middle is where a row that has no room is cut so that the greater part of it is as small as may be.
func middle(row []api.Cell) int {
	found, least := 0, size(row)
	for at := range row {
		if most := max(size(row[:at]), size(row[at:])); most < least {
			found, least = at, most
		}
	}
	return found
}
