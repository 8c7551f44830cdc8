package node

import (
	"bytes"
	"slices"

	"parchment/api"
)

// Room is that of a page without cells.
const Room = 506

// On a page a cell is how many bytes its key has, the key, the value.
const (
	keySize   = 1
	childSize = 2 // of a value that is a child's number, the higher byte first
	slotSize  = 2 // of how many bytes a page says ahead of each cell that it has (chapter 9)
)

// IsKey is whether a tree may have a cell of such a key.
func IsKey(key []byte) bool {
	return len(key) >= 1 && len(key) <= api.MaxKey
}

// IsCell is whether a tree may have such a cell.
func IsCell(c api.Cell) bool {
	return IsKey(c.Key) && len(c.Key)+len(c.Value) <= api.MaxCell
}

func writtenCell(c api.Cell) []byte {
	out := make([]byte, 0, keySize+len(c.Key)+len(c.Value))
	out = append(out, byte(len(c.Key)))
	out = append(out, c.Key...)
	return append(out, c.Value...)
}

// readCell is the cell that bytes of a page are, if they are one.
func readCell(b []byte) (api.Cell, bool) {
	if len(b) < keySize {
		return api.Cell{}, false
	}
	end := keySize + int(b[0])
	if end > len(b) {
		return api.Cell{}, false
	}
	return api.Cell{Key: b[keySize:end:end], Value: b[end:]}, true
}

// number is the child that a value tells.
func number(value []byte) int {
	return int(value[0])<<8 | int(value[1])
}

// Numbered is the value that tells a child.
func Numbered(child int) []byte {
	return []byte{byte(child >> 8), byte(child)}
}

// Size is how much of a page's room a row takes.
func Size(row []api.Cell) int {
	all := 0
	for _, c := range row {
		all += slotSize + keySize + len(c.Key) + len(c.Value)
	}
	return all
}

// Place is where a key's cell stands in a row, if there is one.
func Place(row []api.Cell, key []byte) (int, bool) {
	at := slices.IndexFunc(row, func(c api.Cell) bool { return bytes.Equal(c.Key, key) })
	return max(at, 0), at >= 0
}

// Toward is where the child stands in a row below which a key's cell is, if there is one: it has the highest key that is not above that. (No key is below the first child's.)
func Toward(row []api.Cell, key []byte) int {
	found := -1
	for at, c := range row {
		if bytes.Compare(c.Key, key) <= 0 && (found < 0 || bytes.Compare(c.Key, row[found].Key) > 0) {
			found = at
		}
	}
	return found
}

// Ordered is a row as its keys stand.
func Ordered(row []api.Cell) []api.Cell {
	out := slices.Clone(row)
	slices.SortFunc(out, func(x, y api.Cell) int { return bytes.Compare(x.Key, y.Key) })
	return out
}
