package btree

import (
	"parchment/api"
	"parchment/change"
	"parchment/node"
)

// thin is what a page that is no root has at least, or it is put together with one beside it, if there is room.
const thin = node.Room / 4

// pair is two nodes that stand beside each other, and the one above them, in which the right one's key is an edge.
type pair struct {
	above, left, right *node.Node
	edge               []byte
}

// mend puts a way's thin nodes together with ones beside them, from the last one on: told is the way to the one that is to be stored then.
func mend(b *change.Book, way []*node.Node, key []byte) ([]*node.Node, api.Errno) {
	for len(way) > 1 && node.Size(last(way).Row) < thin {
		n, rest := last(way), ahead(way)
		p, e := paired(b, last(rest), n, key)
		if e != api.OK {
			return nil, e
		}
		all := p.row()
		switch {
		case node.Size(all) <= node.Room:
			e = p.merge(b, all)
		case len(n.Row) < node.Fewest(n.Level):
			e = p.share(b, all)
		default:
			return way, api.OK
		}
		if e != api.OK {
			return nil, e
		}
		way = rest
	}
	return way, api.OK
}

// paired is a node with the one beside it: the one ahead, if there is one.
func paired(b *change.Book, above, n *node.Node, key []byte) (*pair, api.Errno) {
	row := node.Ordered(above.Row)
	at := node.Toward(row, key)
	if at == 0 {
		right, e := above.Child(b, row[1])
		return &pair{above, n, right, row[1].Key}, e
	}
	left, e := above.Child(b, row[at-1])
	return &pair{above, left, n, row[at].Key}, e
}

// row is both nodes' cells.
func (p *pair) row() []api.Cell {
	left := p.left.Row
	return append(left[:len(left):len(left)], lifted(p.right.Row, p.edge)...)
}

// merge puts all on one page: the left one, or the root's, if the root has no other children.
func (p *pair) merge(b *change.Book, all []api.Cell) api.Errno {
	if p.above.Kind == node.RootKind && len(p.above.Row) == 2 {
		p.above.Level, p.above.Row = p.left.Level, all
		return give(b, p.left.Page, p.right.Page)
	}
	if e := give(b, p.right.Page); e != api.OK {
		return e
	}
	at, _ := node.Place(p.above.Row, p.edge)
	p.above.Row = without(p.above.Row, at)
	p.left.Row = all
	return write(b, p.left)
}

// share cuts all anew.
func (p *pair) share(b *change.Book, all []api.Cell) api.Errno {
	all = node.Ordered(all)
	left, edge, right := cut(p.left.Level, all, middle(all))
	at, _ := node.Place(p.above.Row, p.edge)
	p.above.Row[at].Key = edge
	p.left.Row, p.right.Row = left, right
	return write(b, p.left, p.right)
}
