package btree

import (
	"parchment/api"
	"parchment/change"
	"parchment/node"
	"parchment/space"
)

// eachNode goes through a tree's nodes, from the root on, each ahead of those below it, till do tells an error. Each page must be taken, and be there once.
func eachNode(b *change.Book, root int, do func(n *node.Node, s node.Span) api.Errno) api.Errno {
	top, e := node.Root(b, root)
	if e != api.OK {
		return e
	}
	seen := map[int]struct{}{}
	var visit func(n *node.Node, s node.Span) api.Errno
	visit = func(n *node.Node, s node.Span) api.Errno {
		if _, twice := seen[n.Page]; twice {
			return api.ErrShape
		}
		seen[n.Page] = struct{}{}
		if e := isTaken(b, n.Page); e != api.OK {
			return e
		}
		if e := do(n, s); e != api.OK {
			return e
		}
		if n.Level == 0 {
			return api.OK
		}
		row := node.Ordered(n.Row)
		for at, c := range row {
			child, e := n.Child(b, c)
			if e != api.OK {
				return e
			}
			if e := visit(child, s.Below(row, at)); e != api.OK {
				return e
			}
		}
		return api.OK
	}
	return visit(top, node.Span{})
}

func isTaken(b *change.Book, number int) api.Errno {
	is, e := space.Taken(b, number)
	if e == api.OK && !is {
		return api.ErrShape
	}
	return e
}
