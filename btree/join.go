package btree

import (
	"parchment/api"
	"parchment/change"
)

// thin is what a page that is no root has at least, or it is put together with one beside it, if there is room.
const thin = room / 4

// pair is two nodes that stand beside each other, and the one above them, in which the right one's key is an edge.
type pair struct {
	above, left, right *node
	edge               []byte
}

// mend puts a way's thin nodes together with ones beside them, from the last one on: told is the way to the one that is to be stored then.
func mend(b *change.Book, way []*node, key []byte) ([]*node, api.Errno) {
	for len(way) > 1 && size(last(way).row) < thin {
		n, rest := last(way), ahead(way)
		p, e := paired(b, last(rest), n, key)
		if e != api.OK {
			return nil, e
		}
		all := p.row()
		switch {
		case size(all) <= room:
			e = p.merge(b, all)
		case len(n.row) < fewest(n.level):
			e = p.share(b, all)
		default:
			return way, api.OK
		}
		if e != api.OK {
			return nil, e
		}
		way = rest
	}
	return way, api.OK
}

// paired is a node with the one beside it: the one ahead, if there is one.
func paired(b *change.Book, above, n *node, key []byte) (*pair, api.Errno) {
	row := ordered(above.row)
	at := toward(row, key)
	if at == 0 {
		right, e := above.child(b, row[1])
		return &pair{above, n, right, row[1].Key}, e
	}
	left, e := above.child(b, row[at-1])
	return &pair{above, left, n, row[at].Key}, e
}

// row is both nodes' cells.
func (p *pair) row() []api.Cell {
	left := p.left.row
	return append(left[:len(left):len(left)], lifted(p.right.row, p.edge)...)
}

// merge puts all on one page: the left one, or the root's, if the root has no other children.
func (p *pair) merge(b *change.Book, all []api.Cell) api.Errno {
	if p.above.kind == rootKind && len(p.above.row) == 2 {
		p.above.level, p.above.row = p.left.level, all
		return give(b, p.left.page, p.right.page)
	}
	if e := give(b, p.right.page); e != api.OK {
		return e
	}
	at, _ := place(p.above.row, p.edge)
	p.above.row = without(p.above.row, at)
	p.left.row = all
	return write(b, p.left)
}

// share cuts all anew.
func (p *pair) share(b *change.Book, all []api.Cell) api.Errno {
	all = ordered(all)
	left, edge, right := cut(p.left.level, all, middle(all))
	at, _ := place(p.above.row, p.edge)
	p.above.row[at].Key = edge
	p.left.row, p.right.row = left, right
	return write(b, p.left, p.right)
}
