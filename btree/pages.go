package btree

import (
	"parchment/api"
	"parchment/change"
	"parchment/node"
	"parchment/space"
)

// write puts nodes on their pages.
func write(b *change.Book, nodes ...*node.Node) api.Errno {
	for _, n := range nodes {
		p, is := n.Bytes()
		if !is {
			return api.ErrShape // the rows of a sound tree are cut so that there is room
		}
		if e := b.Put(n.Page, p); e != api.OK {
			return e
		}
	}
	return api.OK
}

// taken is a node without cells on a page that is taken for it, and not written yet.
func taken(b *change.Book, kind byte, level int) (*node.Node, api.Errno) {
	number, e := space.Take(b)
	if e != api.OK {
		return nil, e
	}
	return &node.Node{Page: number, Kind: kind, Level: level}, api.OK
}

// give gives pages of a tree back. One that is not taken is none of a tree.
func give(b *change.Book, pages ...int) api.Errno {
	for _, number := range pages {
		switch e := space.Give(b, number); e {
		case api.OK:
		case api.ErrArg:
			return api.ErrShape
		default:
			return e
		}
	}
	return api.OK
}
