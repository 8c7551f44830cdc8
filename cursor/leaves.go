package cursor

import (
	"iter"

	"parchment/api"
	"parchment/change"
	"parchment/node"
)

// cells goes through those of a tree on a side of a cut, the nearest one first. An error is the last thing that it tells.
func cells(b *change.Book, root int, from cut, to side) iter.Seq2[api.Cell, api.Errno] {
	return func(yield func(api.Cell, api.Errno) bool) {
		for row, e := range leaves(b, root, from.key, to) {
			if e != api.OK {
				yield(api.Cell{}, e)
				return
			}
			for at := range to.places(to.first(from.ahead(row)), len(row)) {
				if !yield(row[at], api.OK) {
					return
				}
			}
		}
	}
}

// leaves goes through the rows of a tree's leaves, as the keys stand: from the one on which a key's cell is, if there is one, to a side. Pages are read as they are asked for. An error is the last thing that it tells: ErrShape, too, where a page has keys that may not stand there. So no page is come to twice, and each way through a tree ends.
func leaves(b *change.Book, root int, key []byte, to side) iter.Seq2[[]api.Cell, api.Errno] {
	return func(yield func([]api.Cell, api.Errno) bool) {
		fail := func(e api.Errno) bool {
			yield(nil, e)
			return false
		}
		var visit func(n *node.Node, s node.Span) bool
		visit = func(n *node.Node, s node.Span) bool {
			row := node.Ordered(n.Row)
			if !s.Fits(n.Level, row) {
				return fail(api.ErrShape)
			}
			if n.Level == 0 {
				return yield(row, api.OK)
			}
			for at := range to.places(node.Toward(row, key), len(row)) {
				below, e := n.Child(b, row[at])
				if e != api.OK {
					return fail(e)
				}
				if !visit(below, s.Below(row, at)) {
					return false
				}
			}
			return true
		}
		top, e := node.Root(b, root)
		if e != api.OK {
			fail(e)
			return
		}
		visit(top, node.Span{})
	}
}
