// Package node is what stands on the pages of a tree (chapter 15): for those that change trees, and for those that only go through them.
package node

import (
	"parchment/api"
	"parchment/change"
	"parchment/page"
	"parchment/sheet"
)

// A page's kind says that it is one of a tree: its root, or another one; and its level: how many levels of pages are below it. So no way down is endless, and all leaves are as deep.
const (
	LimbKind  byte = 96
	RootKind  byte = 112
	levelBits byte = 15
	MaxLevel       = int(levelBits)
)

// Node is what stands on a page of a tree. A leaf's cells are the tree's own. Those of a page above have children as values: the keys below a child are not below its own key, and below the next one that stands there; the first child's key is of no bytes.
type Node struct {
	Page  int
	Kind  byte
	Level int
	Row   []api.Cell // as the cells came: one that is put behind the others changes few bytes of the page, and takes little of the log
}

// Root is the node on a page that is a tree's root.
func Root(b *change.Book, root int) (*Node, api.Errno) {
	n, e := load(b, root)
	if e != api.OK {
		return nil, e
	}
	if n.Kind != RootKind {
		return nil, api.ErrShape
	}
	return n, api.OK
}

// Child is the node that one of a node's cells tells.
func (n *Node) Child(b *change.Book, c api.Cell) (*Node, api.Errno) {
	below, e := load(b, number(c.Value))
	if e != api.OK {
		return nil, e
	}
	if below.Kind != LimbKind || below.Level != n.Level-1 {
		return nil, api.ErrShape
	}
	return below, api.OK
}

// load is the node on a page that a tree may have.
func load(b *change.Book, number int) (*Node, api.Errno) {
	p, e := sheet.Read(b, number)
	if e != api.OK {
		return nil, e
	}
	n, is := Parse(p)
	if !is {
		return nil, api.ErrShape
	}
	n.Page = number
	return n, api.OK
}

// Parse is a page's node, of whatever kind, if its bytes are one's.
func Parse(p []byte) (*Node, bool) {
	kind := page.Kind(p)
	n := &Node{Kind: kind &^ levelBits, Level: int(kind & levelBits)}
	if page.Next(p) != 0 {
		return nil, false
	}
	for slot := range page.Count(p) {
		written, _ := page.Get(p, slot)
		c, is := readCell(written)
		if !is {
			return nil, false
		}
		n.Row = append(n.Row, c)
	}
	return n, n.right()
}

// right is whether its cells may stand on its page, as far as the page alone tells.
func (n *Node) right() bool {
	if n.Level == 0 {
		return n.rightLeaf()
	}
	firsts := 0
	for _, c := range n.Row {
		if len(c.Key) > api.MaxKey || len(c.Value) != childSize {
			return false
		}
		if len(c.Key) == 0 {
			firsts++
		}
	}
	return firsts == 1 && len(n.Row) >= Fewest(n.Level)
}

func (n *Node) rightLeaf() bool {
	for _, c := range n.Row {
		if !IsCell(c) {
			return false
		}
	}
	return n.Kind == RootKind || len(n.Row) >= Fewest(n.Level)
}

// Fewest is how many cells a node has at least, but for a root without any.
func Fewest(level int) int {
	if level == 0 {
		return 1
	}
	return 2
}

// Bytes are its page's, if there is room for its row.
func (n *Node) Bytes() ([]byte, bool) {
	p := page.New(n.Kind | byte(n.Level))
	for slot, c := range n.Row {
		if e := page.Insert(p, slot, writtenCell(c)); e != api.OK {
			return nil, false
		}
	}
	return p, true
}
