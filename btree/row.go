package btree

import (
	"parchment/api"
	"parchment/node"
)

// with is a row with a cell, in the place of one with its key, or behind all.
func with(row []api.Cell, c api.Cell) []api.Cell {
	at, is := node.Place(row, c.Key)
	if !is {
		return append(row[:len(row):len(row)], c)
	}
	return append(append(row[:at:at], c), row[at+1:]...)
}

// without is a row without one of its cells.
func without(row []api.Cell, at int) []api.Cell {
	return append(row[:at:at], row[at+1:]...)
}

// lifted is the row of a node that others come ahead of: its first child, if it has children, gets an edge for its key.
func lifted(row []api.Cell, edge []byte) []api.Cell {
	at, is := node.Place(row, nil)
	if !is {
		return row
	}
	return append(without(row, at), api.Cell{Key: edge, Value: row[at].Value})
}

// cut is a row in two, and an edge: all keys on the left are below it, none on the right is. Of leaves it is as short as may be, so that the pages above have room for many.
func cut(level int, row []api.Cell, at int) (left []api.Cell, edge []byte, right []api.Cell) {
	left, right = row[:at:at], row[at:len(row):len(row)]
	if level == 0 {
		return left, between(left[at-1].Key, right[0].Key), right
	}
	first := api.Cell{Value: right[0].Value}
	return left, right[0].Key, append([]api.Cell{first}, right[1:]...)
}

// between is the shortest key that is above low and not above high.
func between(low, high []byte) []byte {
	alike := 0
	for alike < min(len(low), len(high)) && low[alike] == high[alike] {
		alike++
	}
	return high[:min(alike+1, len(high))]
}

// middle is where a row that has no room is cut so that the greater part of it is as small as may be.
func middle(row []api.Cell) int {
	found, least := 0, node.Size(row)
	for at := range row {
		if most := max(node.Size(row[:at]), node.Size(row[at:])); most < least {
			found, least = at, most
		}
	}
	return found
}
