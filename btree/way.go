package btree

import (
	"bytes"

	"parchment/api"
	"parchment/change"
	"parchment/node"
)

// toLeaf is the nodes from a tree's root to the leaf on which a key's cell stands, if there is one.
func toLeaf(b *change.Book, root int, key []byte) ([]*node.Node, api.Errno) {
	n, e := node.Root(b, root)
	if e != api.OK {
		return nil, e
	}
	way := []*node.Node{n}
	for n.Level > 0 {
		n, e = n.Child(b, n.Row[node.Toward(n.Row, key)])
		if e != api.OK {
			return nil, e
		}
		way = append(way, n)
	}
	return way, api.OK
}

func last(way []*node.Node) *node.Node {
	return way[len(way)-1]
}

// ahead is a way without its last node.
func ahead(way []*node.Node) []*node.Node {
	return way[: len(way)-1 : len(way)-1]
}

// isHighest is whether no key of a tree is above one, to which a way goes.
func isHighest(way []*node.Node, key []byte) bool {
	for _, n := range way {
		for _, c := range n.Row {
			if bytes.Compare(c.Key, key) > 0 {
				return false
			}
		}
	}
	return true
}

// store writes the last node of a way. One that its page has no room for is cut in two, and the node ahead of it gets one more child. Highest: what was put is behind all that the tree has.
func store(b *change.Book, way []*node.Node, highest bool) api.Errno {
	for node.Size(last(way).Row) > node.Room {
		if len(way) == 1 {
			below, e := deepen(b, last(way))
			if e != api.OK {
				return e
			}
			way = append(way, below)
		}
		c, e := split(b, last(way), highest)
		if e != api.OK {
			return e
		}
		way = ahead(way)
		above := last(way)
		above.Row = with(above.Row, c)
	}
	return write(b, last(way))
}

// deepen lets a root have one child, which has all that the root had: so a tree's root stays where it is.
func deepen(b *change.Book, root *node.Node) (*node.Node, api.Errno) {
	if root.Level == node.MaxLevel {
		return nil, api.ErrShape // a tree of so many levels has more pages than a book
	}
	below, e := taken(b, node.LimbKind, root.Level)
	if e != api.OK {
		return nil, e
	}
	below.Row = root.Row
	root.Level++
	root.Row = []api.Cell{{Value: node.Numbered(below.Page)}}
	return below, api.OK
}

// split cuts a node in two: told is the cell of the one that gets the right part. What is put behind all else gets that for itself, since more may follow it: so what comes in order fills its pages.
func split(b *change.Book, n *node.Node, highest bool) (api.Cell, api.Errno) {
	row := node.Ordered(n.Row)
	at := middle(row)
	if highest {
		at = len(row) - node.Fewest(n.Level)
	}
	beside, e := taken(b, n.Kind, n.Level)
	if e != api.OK {
		return api.Cell{}, e
	}
	left, edge, right := cut(n.Level, row, at)
	n.Row, beside.Row = left, right
	if e := write(b, n, beside); e != api.OK {
		return api.Cell{}, e
	}
	return api.Cell{Key: edge, Value: node.Numbered(beside.Page)}, api.OK
}
