package btree

import (
	"parchment/api"
	"parchment/change"
	"parchment/page"
	"parchment/space"
)

// A page's kind says that it is one of a tree: its root, or another one; and its level: how many levels of pages are below it. So no way down is endless, and all leaves are as deep.
const (
	limbKind  byte = 96
	rootKind  byte = 112
	levelBits byte = 15
	maxLevel       = int(levelBits)
)

// mapBits is how many pages one page of the space's map tells of (chapter 14).
const mapBits = 8 * api.BlockSize

// node is what stands on a page of a tree. A leaf's cells are the tree's own. Those of a page above have children as values: the keys below a child are not below its own key, and below the next one that stands there; the first child's key is of no bytes.
type node struct {
	page  int
	kind  byte
	level int
	row   []api.Cell // as the cells came: one that is put behind the others changes few bytes of the page, and takes little of the log
}

// load is the node on a page that a tree may have.
func load(b *change.Book, number int) (*node, api.Errno) {
	pages := b.Pages()
	own := 1 + (pages+mapBits-1)/mapBits
	if number < own || number >= pages {
		return nil, api.ErrShape
	}
	p, e := b.Page(number)
	if e != api.OK {
		return nil, e
	}
	n, is := parse(p)
	if !is {
		return nil, api.ErrShape
	}
	n.page = number
	return n, api.OK
}

func loadRoot(b *change.Book, root int) (*node, api.Errno) {
	n, e := load(b, root)
	if e != api.OK {
		return nil, e
	}
	if n.kind != rootKind {
		return nil, api.ErrShape
	}
	return n, api.OK
}

// child is the node that one of its cells tells.
func (n *node) child(b *change.Book, c api.Cell) (*node, api.Errno) {
	below, e := load(b, number(c.Value))
	if e != api.OK {
		return nil, e
	}
	if below.kind != limbKind || below.level != n.level-1 {
		return nil, api.ErrShape
	}
	return below, api.OK
}

// parse is a page's node, of whatever kind, if its bytes are one's.
func parse(p []byte) (*node, bool) {
	kind := page.Kind(p)
	n := &node{kind: kind &^ levelBits, level: int(kind & levelBits)}
	if page.Next(p) != 0 {
		return nil, false
	}
	for slot := range page.Count(p) {
		written, _ := page.Get(p, slot)
		c, is := readCell(written)
		if !is {
			return nil, false
		}
		n.row = append(n.row, c)
	}
	return n, n.right()
}

// right is whether its cells may stand on its page, as far as the page alone tells.
func (n *node) right() bool {
	if n.level == 0 {
		return n.rightLeaf()
	}
	firsts := 0
	for _, c := range n.row {
		if len(c.Key) > api.MaxKey || len(c.Value) != childSize {
			return false
		}
		if len(c.Key) == 0 {
			firsts++
		}
	}
	return firsts == 1 && len(n.row) >= fewest(n.level)
}

func (n *node) rightLeaf() bool {
	for _, c := range n.row {
		if !isCell(c) {
			return false
		}
	}
	return n.kind == rootKind || len(n.row) >= fewest(n.level)
}

// fewest is how many cells a node has at least, but for a root without any.
func fewest(level int) int {
	if level == 0 {
		return 1
	}
	return 2
}

// bytes are its page's, if there is room for its row.
func (n *node) bytes() ([]byte, bool) {
	p := page.New(n.kind | byte(n.level))
	for slot, c := range n.row {
		if e := page.Insert(p, slot, writtenCell(c)); e != api.OK {
			return nil, false
		}
	}
	return p, true
}

// write puts nodes on their pages.
func write(b *change.Book, nodes ...*node) api.Errno {
	for _, n := range nodes {
		p, is := n.bytes()
		if !is {
			return api.ErrShape // the rows of a sound tree are cut so that there is room
		}
		if e := b.Put(n.page, p); e != api.OK {
			return e
		}
	}
	return api.OK
}

// taken is a node without cells on a page that is taken for it, and not written yet.
func taken(b *change.Book, kind byte, level int) (*node, api.Errno) {
	number, e := space.Take(b)
	if e != api.OK {
		return nil, e
	}
	return &node{page: number, kind: kind, level: level}, api.OK
}

// give gives pages of a tree back. One that is not taken is none of a tree.
func give(b *change.Book, pages ...int) api.Errno {
	for _, number := range pages {
		switch e := space.Give(b, number); e {
		case api.OK:
		case api.ErrArg:
			return api.ErrShape
		default:
			return e
		}
	}
	return api.OK
}
