package btree

import (
	"bytes"

	"parchment/api"
	"parchment/change"
)

// toLeaf is the nodes from a tree's root to the leaf on which a key's cell stands, if there is one.
func toLeaf(b *change.Book, root int, key []byte) ([]*node, api.Errno) {
	n, e := loadRoot(b, root)
	if e != api.OK {
		return nil, e
	}
	way := []*node{n}
	for n.level > 0 {
		n, e = n.child(b, n.row[toward(n.row, key)])
		if e != api.OK {
			return nil, e
		}
		way = append(way, n)
	}
	return way, api.OK
}

func last(way []*node) *node {
	return way[len(way)-1]
}

// ahead is a way without its last node.
func ahead(way []*node) []*node {
	return way[: len(way)-1 : len(way)-1]
}

// isHighest is whether no key of a tree is above one, to which a way goes.
func isHighest(way []*node, key []byte) bool {
	for _, n := range way {
		for _, c := range n.row {
			if bytes.Compare(c.Key, key) > 0 {
				return false
			}
		}
	}
	return true
}

// store writes the last node of a way. One that its page has no room for is cut in two, and the node ahead of it gets one more child. Highest: what was put is behind all that the tree has.
func store(b *change.Book, way []*node, highest bool) api.Errno {
	for size(last(way).row) > room {
		if len(way) == 1 {
			below, e := deepen(b, last(way))
			if e != api.OK {
				return e
			}
			way = append(way, below)
		}
		c, e := split(b, last(way), highest)
		if e != api.OK {
			return e
		}
		way = ahead(way)
		above := last(way)
		above.row = with(above.row, c)
	}
	return write(b, last(way))
}

// deepen lets a root have one child, which has all that the root had: so a tree's root stays where it is.
func deepen(b *change.Book, root *node) (*node, api.Errno) {
	if root.level == maxLevel {
		return nil, api.ErrShape // a tree of so many levels has more pages than a book
	}
	below, e := taken(b, limbKind, root.level)
	if e != api.OK {
		return nil, e
	}
	below.row = root.row
	root.level++
	root.row = []api.Cell{{Value: numbered(below.page)}}
	return below, api.OK
}

// split cuts a node in two: told is the cell of the one that gets the right part. What is put behind all else gets that for itself, since more may follow it: so what comes in order fills its pages.
func split(b *change.Book, n *node, highest bool) (api.Cell, api.Errno) {
	row := ordered(n.row)
	at := middle(row)
	if highest {
		at = len(row) - fewest(n.level)
	}
	beside, e := taken(b, n.kind, n.level)
	if e != api.OK {
		return api.Cell{}, e
	}
	left, edge, right := cut(n.level, row, at)
	n.row, beside.row = left, right
	if e := write(b, n, beside); e != api.OK {
		return api.Cell{}, e
	}
	return api.Cell{Key: edge, Value: numbered(beside.page)}, api.OK
}
