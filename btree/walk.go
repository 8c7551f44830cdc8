package btree

import (
	"bytes"

	"parchment/api"
	"parchment/change"
	"parchment/space"
)

// span is which keys a node may have below it: from low on, and below high; where high is of no bytes, of any height.
type span struct{ low, high []byte }

// eachNode goes through a tree's nodes, from the root on, each ahead of those below it, till do tells an error. Each page must be taken, and be there once.
func eachNode(b *change.Book, root int, do func(n *node, s span) api.Errno) api.Errno {
	top, e := loadRoot(b, root)
	if e != api.OK {
		return e
	}
	seen := map[int]struct{}{}
	var visit func(n *node, s span) api.Errno
	visit = func(n *node, s span) api.Errno {
		if _, twice := seen[n.page]; twice {
			return api.ErrShape
		}
		seen[n.page] = struct{}{}
		if e := isTaken(b, n.page); e != api.OK {
			return e
		}
		if e := do(n, s); e != api.OK {
			return e
		}
		if n.level == 0 {
			return api.OK
		}
		row := ordered(n.row)
		for at, c := range row {
			child, e := n.child(b, c)
			if e != api.OK {
				return e
			}
			if e := visit(child, s.below(row, at)); e != api.OK {
				return e
			}
		}
		return api.OK
	}
	return visit(top, span{})
}

func isTaken(b *change.Book, number int) api.Errno {
	is, e := space.Taken(b, number)
	if e == api.OK && !is {
		return api.ErrShape
	}
	return e
}

// below is which keys the child at a place of a row may have.
func (s span) below(row []api.Cell, at int) span {
	if at > 0 {
		s.low = row[at].Key
	}
	if at+1 < len(row) {
		s.high = row[at+1].Key
	}
	return s
}

// stands is whether a node's keys are all different, and may be where it is; but for its first child's, of no bytes.
func (n *node) stands(s span) bool {
	row := ordered(n.row)
	if n.level > 0 {
		row = row[1:]
	}
	for at, c := range row {
		if at > 0 && bytes.Equal(row[at-1].Key, c.Key) {
			return false
		}
		if bytes.Compare(c.Key, s.low) < 0 || len(s.high) > 0 && bytes.Compare(c.Key, s.high) >= 0 {
			return false
		}
	}
	return true
}
