package btree

import (
	"bytes"
	"fmt"
	"math/rand"
	"slices"
	"strings"
	"testing"

	"parchment/api"
	"parchment/change"
	"parchment/device"
	"parchment/log"
	"parchment/node"
	"parchment/page"
	"parchment/pool"
	"parchment/space"
)

// R1 and ErrShape over pages that no call of this package wrote, though they look like a tree's; and what the calls go by.

const grownCells = 25

func grownKey(i int) string {
	return strings.Repeat("k", 150) + fmt.Sprintf("%05d", i)
}

// grown is a book in a transaction, and the root of a tree of three levels.
func grown(t *testing.T) (*change.Book, int) {
	t.Helper()
	b := opened(t)
	root, e := New(b)
	must(t, e)
	for i := range grownCells {
		_, e := Put(b, root, []byte(grownKey(i*37%grownCells)), []byte("value"))
		must(t, e)
		anew(t, b)
	}
	if n, e := node.Root(b, root); e != api.OK || n.Level != 2 {
		t.Fatalf("%d levels above the leaves, %d: no tree of three levels", n.Level, e)
	}
	return b, root
}

// opened is a book with a space, in a transaction.
func opened(t *testing.T) *change.Book {
	t.Helper()
	d := device.New(1000)
	must(t, change.Format(d))
	first, pages, at, count := change.Place(d.Blocks())
	l, e := log.Open(d, at, count, 1, 2)
	must(t, e)
	b := change.New(d, l, pool.New(d, l, first, pages, 8))
	must(t, b.Begin())
	must(t, space.Format(b))
	return b
}

func anew(t *testing.T, b *change.Book) {
	t.Helper()
	must(t, b.Commit())
	must(t, b.Begin())
}

func must(t *testing.T, e api.Errno) {
	t.Helper()
	if e != api.OK {
		t.Fatal(e)
	}
}

// undone undoes what is done to a book, whose pages are as they were then.
func undone(t *testing.T, b *change.Book, do func()) {
	t.Helper()
	anew(t, b)
	do()
	must(t, b.Abort())
	must(t, b.Begin())
}

// forge puts a node on its page, whatever is wrong with it.
func forge(t *testing.T, b *change.Book, n *node.Node) {
	t.Helper()
	p, is := n.Bytes()
	if !is {
		t.Fatal("there is no room for what is forged")
	}
	must(t, b.Put(n.Page, p))
}

// told is what the calls are told of a tree, one by one, each from the same beginning on; what stands beside an error is held against zeros.
func told(t *testing.T, b *change.Book, bend func(), root int, key []byte) (get, put, del, drop, check api.Errno) {
	t.Helper()
	undone(t, b, func() {
		bend()
		var v []byte
		var is bool
		v, is, get = Get(b, root, key)
		if get != api.OK && (len(v) > 0 || is) {
			t.Fatalf("Get = %q, %v, %d", v, is, get)
		}
		var n int
		var pages []int
		n, pages, check = Check(b, root)
		if check != api.OK && (n > 0 || len(pages) > 0) {
			t.Fatalf("Check = %d, %v, %d", n, pages, check)
		}
	})
	undone(t, b, func() {
		bend()
		var r int
		r, put = Put(b, root, key, make([]byte, api.MaxCell-len(key)))
		if put == api.OK && r != root || put != api.OK && r != 0 {
			t.Fatalf("Put = %d, %d", r, put)
		}
	})
	undone(t, b, func() {
		bend()
		var r int
		var was bool
		r, was, del = Delete(b, root, key)
		if del == api.OK && r != root || del != api.OK && (r != 0 || was) {
			t.Fatalf("Delete = %d, %v, %d", r, was, del)
		}
	})
	undone(t, b, func() {
		bend()
		drop = Drop(b, root)
	})
	return get, put, del, drop, check
}

// Who sees what is bent: each call on whose way it is, or all that go through the whole tree, or Check alone.
const (
	all = iota
	whole
	checked
)

func TestForgedPages(t *testing.T) {
	b, root := grown(t)
	key := []byte(grownKey(grownCells / 2))
	way, e := toLeaf(b, root, key)
	must(t, e)
	limb, leaf := way[1].Page, way[2].Page
	children := func(to int) func(n *node.Node) {
		return func(n *node.Node) {
			for at := range n.Row {
				n.Row[at].Value = node.Numbered(to)
			}
		}
	}
	cells := func(row ...api.Cell) func(n *node.Node) { return func(n *node.Node) { n.Row = row } }
	for _, x := range []struct {
		name string
		at   int // of the way: 0 is the root, 2 the leaf
		bend func(n *node.Node)
		seen int
	}{
		{"the root is a limb", 0, func(n *node.Node) { n.Kind = node.LimbKind }, all},
		{"the root is of another level", 0, func(n *node.Node) { n.Level++ }, all},
		{"the limb is a root", 1, func(n *node.Node) { n.Kind = node.RootKind }, all},
		{"the limb is of another level", 1, func(n *node.Node) { n.Level++ }, all},
		{"the leaf is a root", 2, func(n *node.Node) { n.Kind = node.RootKind }, all},
		{"the leaf is a limb", 2, func(n *node.Node) { n.Level, n.Row = 1, way[1].Row }, all},
		{"the leaf is of another kind", 2, func(n *node.Node) { n.Kind = 32 }, all},
		{"the root's children are itself", 0, children(root), all},
		{"the root's children are leaves", 0, children(leaf), all},
		{"the limb's children are the root", 1, children(root), all},
		{"the limb's children are itself", 1, children(limb), all},
		{"children are the page 0", 0, children(0), all},
		{"children are the map", 1, children(1), all},
		{"children are a free page", 1, children(400), all},
		{"children are no pages", 1, children(65535), all},
		{"children are as many as pages", 1, children(b.Pages()), all},
		{"children are one and the same", 1, children(leaf), whole},
		{"one child is another one, too", 0, func(n *node.Node) { n.Row[1].Value = n.Row[0].Value }, whole},
		{"one child is no page", 1, func(n *node.Node) { n.Row = with(n.Row, api.Cell{Key: []byte("z"), Value: node.Numbered(65535)}) }, whole},
		{"two first children", 0, func(n *node.Node) { n.Row[0].Key, n.Row[1].Key = nil, nil }, all},
		{"no first child", 0, func(n *node.Node) { n.Row = lifted(n.Row, []byte("a")) }, all},
		{"one child", 1, cells(api.Cell{Value: node.Numbered(leaf)}), all},
		{"no child", 1, cells(), all},
		{"no cell", 2, cells(), all},
		{"a child of one byte", 1, func(n *node.Node) { n.Row[0].Value = []byte{1} }, all},
		{"a child of no bytes", 1, func(n *node.Node) { n.Row[0].Value = nil }, all},
		{"a child of three bytes", 1, func(n *node.Node) { n.Row[0].Value = append(n.Row[0].Value, 0) }, all},
		{"a child's key too long", 1, cells(api.Cell{Value: node.Numbered(leaf)}, api.Cell{Key: make([]byte, 161), Value: node.Numbered(leaf)}), all},
		{"a key of no bytes", 2, func(n *node.Node) { n.Row[0].Key = nil }, all},
		{"a key too long", 2, cells(api.Cell{Key: make([]byte, 161)}), all},
		{"a cell too long", 2, cells(api.Cell{Key: []byte("k"), Value: make([]byte, 200)}), all},
		{"two cells of one key", 2, func(n *node.Node) { n.Row = append(n.Row[:1:1], n.Row[0]) }, checked},
		{"a key below all that may be", 2, cells(api.Cell{Key: []byte("a")}), checked},
		{"a key above all that may be", 2, cells(api.Cell{Key: []byte("z")}), checked},
		{"the limb's keys below all that may be", 1, func(n *node.Node) {
			n.Row = with(without(n.Row, 0), n.Row[0])
			n.Row = lifted(n.Row, []byte("a"))
			n.Row[0].Key = nil
		}, checked},
	} {
		t.Run(x.name, func(t *testing.T) {
			get, put, del, drop, check := told(t, b, func() {
				way, e := toLeaf(b, root, key)
				must(t, e)
				x.bend(way[x.at])
				forge(t, b, way[x.at])
			}, root, key)
			if check != api.ErrShape {
				t.Errorf("Check = %d", check)
			}
			if x.seen <= whole && drop != api.ErrShape {
				t.Errorf("Drop = %d", drop)
			}
			if x.seen == all && (get != api.ErrShape || put != api.ErrShape || del != api.ErrShape) {
				t.Errorf("Get = %d, Put = %d, Delete = %d", get, put, del)
			}
		})
	}
	if n, _, e := Check(b, root); n != grownCells || e != api.OK {
		t.Errorf("Check = %d, %d", n, e)
	}
}

// Bytes that are no cells, on pages that are right ones.
func TestForgedBytes(t *testing.T) {
	b, root := grown(t)
	key := []byte(grownKey(grownCells / 2))
	way, e := toLeaf(b, root, key)
	must(t, e)
	for _, n := range way {
		next, _ := n.Bytes()
		page.SetNext(next, 1)
		rows := [][]byte{next}
		for _, cell := range [][]byte{{}, {1}, {2, 'k'}, {255, 'k'}, append([]byte{200}, key...)} {
			p, _ := n.Bytes()
			page.Delete(p, 0)
			page.Insert(p, 0, cell)
			rows = append(rows, p)
		}
		for _, p := range rows {
			get, put, del, drop, check := told(t, b, func() { must(t, b.Put(n.Page, p)) }, root, key)
			for _, e := range []api.Errno{get, put, del, drop, check} {
				if e != api.ErrShape {
					t.Fatalf("%d, %d, %d, %d, %d of the bytes %v", get, put, del, drop, check, p[:20])
				}
			}
		}
	}
}

// Whatever stands on a tree's pages: all calls end, and nothing stands beside an error.
func TestAnyBytes(t *testing.T) {
	b, root := grown(t)
	_, pages, e := Check(b, root)
	must(t, e)
	r := rand.New(rand.NewSource(15))
	seen := map[api.Errno]int{}
	for range 1500 {
		var bent [][]byte
		for _, number := range pages {
			p, e := b.Page(number)
			must(t, e)
			bent = append(bent, p)
		}
		for range 1 + r.Intn(3) {
			p := bent[r.Intn(len(bent))]
			switch r.Intn(4) {
			case 0:
				p[r.Intn(12)] ^= 1 << r.Intn(8)
			case 1:
				p[r.Intn(api.BlockSize)] = byte(r.Intn(256))
			case 2:
				copy(p, bent[r.Intn(len(bent))])
			case 3:
				bend(r, p, pages)
			}
		}
		key := []byte(grownKey(r.Intn(grownCells)))[:1+r.Intn(155)]
		if r.Intn(2) == 0 {
			key = []byte(grownKey(r.Intn(grownCells)))
		}
		get, put, del, drop, check := told(t, b, func() {
			for i, number := range pages {
				must(t, b.Put(number, bent[i]))
			}
		}, root, key)
		for _, e := range []api.Errno{get, put, del, drop, check} {
			seen[e]++
		}
	}
	if len(seen) != 2 || seen[api.OK] == 0 || seen[api.ErrShape] == 0 {
		t.Errorf("what was told: %v", seen)
	}
}

// bend lets a page's node be another one that may stand there, as far as the page alone tells.
func bend(r *rand.Rand, p []byte, pages []int) {
	n, is := node.Parse(p)
	if !is {
		return
	}
	at := r.Intn(len(n.Row))
	switch {
	case n.Level == 0:
		n.Row[at].Key = bytes.Repeat([]byte{byte(r.Intn(256))}, 1+r.Intn(40))
	case r.Intn(2) == 0:
		n.Row[at].Value = node.Numbered(pages[r.Intn(len(pages))])
	case len(n.Row[at].Key) > 0:
		n.Row[at].Key = bytes.Repeat([]byte{byte(r.Intn(256))}, 1+r.Intn(160))
	}
	if q, is := n.Bytes(); is {
		copy(p, q)
	}
}

// A tree so deep that no book has as many pages does not get deeper.
func TestDeepest(t *testing.T) {
	b := opened(t)
	var numbers []int
	for range node.MaxLevel + 1 {
		number, e := space.Take(b)
		must(t, e)
		numbers = append(numbers, number)
	}
	long := func(x byte) []byte { return bytes.Repeat([]byte{x}, api.MaxKey) }
	for level, number := range numbers {
		n := &node.Node{Page: number, Kind: node.LimbKind, Level: level}
		if level == 0 {
			n.Row = []api.Cell{{Key: long('b'), Value: make([]byte, 40)}, {Key: long('c'), Value: make([]byte, 40)}}
		} else {
			below := node.Numbered(numbers[level-1])
			n.Row = []api.Cell{{Value: below}}
			for i := range 3 {
				n.Row = append(n.Row, api.Cell{Key: long(byte(100 + 4*level + i)), Value: below})
			}
		}
		if level == node.MaxLevel {
			n.Kind = node.RootKind
		}
		forge(t, b, n)
		anew(t, b)
	}
	root := numbers[node.MaxLevel]
	if r, e := Put(b, root, append(long('b')[:159], 'c'), make([]byte, 40)); r != 0 || e != api.ErrShape {
		t.Errorf("Put = %d, %d", r, e)
	}
}

// A Delete may need a page: where two nodes are cut anew, their edge may be longer than it was, and the node above have no room for that.
func TestDeleteThatNeedsAPage(t *testing.T) {
	b := opened(t)
	long := func(n int, first string, x byte) string {
		return first + strings.Repeat("x", n-len(first)-1) + string([]byte{x})
	}
	lifts := [][]string{
		{"", long(160, "a", 1), long(160, "a", 2), long(160, "a", 3)},
		{"bb", "bc"},
		{long(159, "c", 0), "d"},
		{long(159, "e", 0), "f"},
		{long(159, "g", 0), "h"},
	}
	taking := func(kind byte, level int) *node.Node {
		n, e := taken(b, kind, level)
		must(t, e)
		return n
	}
	root := taking(node.RootKind, 2)
	var keys []string
	for _, edges := range lifts {
		n := taking(node.LimbKind, 1)
		for i, edge := range edges {
			leaf := taking(node.LimbKind, 0)
			key := edge + "!"
			if len(edge) == api.MaxKey {
				key = edge
			}
			leaf.Row = []api.Cell{{Key: []byte(key)}}
			keys = append(keys, key)
			if i == 0 {
				root.Row = append(root.Row, api.Cell{Key: []byte(edge), Value: node.Numbered(n.Page)})
				edge = ""
			}
			n.Row = append(n.Row, api.Cell{Key: []byte(edge), Value: node.Numbered(leaf.Page)})
			forge(t, b, leaf)
		}
		forge(t, b, n)
		anew(t, b)
	}
	forge(t, b, root)
	_, ahead, e := Check(b, root.Page)
	must(t, e)
	if r, was, e := Delete(b, root.Page, []byte("bb!")); r != root.Page || !was || e != api.OK {
		t.Fatalf("Delete = %d, %v, %d", r, was, e)
	}
	n, behind, e := Check(b, root.Page)
	if n != len(keys)-1 || len(behind) <= len(ahead) || e != api.OK {
		t.Fatalf("Check = %d, %v, %d; ahead %v", n, behind, e, ahead)
	}
	for _, key := range keys {
		if _, is, e := Get(b, root.Page, []byte(key)); is != (key != "bb!") || e != api.OK {
			t.Errorf("Get(%q) = %v, %d", key, is, e)
		}
	}
}

// A page's keys that are above those of the page above it: what is put behind all may be cut where there is no room.
func TestKeysThatAreTooHigh(t *testing.T) {
	b := opened(t)
	long := func(first string) []byte { return []byte(first + strings.Repeat("x", api.MaxKey-len(first))) }
	child := func(n *node.Node, key []byte, below *node.Node) {
		n.Row = append(n.Row, api.Cell{Key: key, Value: node.Numbered(below.Page)})
	}
	nodes := make([]*node.Node, 3)
	for level := range nodes {
		n, e := taken(b, node.LimbKind, level)
		must(t, e)
		nodes[level] = n
	}
	leaf, limb, root := nodes[0], nodes[1], nodes[2]
	root.Kind = node.RootKind
	leaf.Row = []api.Cell{{Key: long("da"), Value: make([]byte, 40)}, {Key: long("daa"), Value: make([]byte, 40)}}
	for _, key := range [][]byte{nil, long("a1"), long("a2"), long("a3")} {
		child(limb, key, leaf)
	}
	for _, key := range [][]byte{nil, long("1"), long("2"), []byte("3333333333333333"), []byte("b"), []byte("c")} {
		child(root, key, limb)
	}
	for _, n := range nodes {
		forge(t, b, n)
		anew(t, b)
	}
	if r, e := Put(b, root.Page, long("db"), make([]byte, 40)); r != 0 || e != api.ErrShape {
		t.Errorf("Put = %d, %d", r, e)
	}
}

// A page of a tree that was given back is found where it would be given back once more; one that is no tree's any more, by whoever comes to it, from above or from beside.
func TestPagesThatAreGone(t *testing.T) {
	b, root := grown(t)
	_, pages, e := Check(b, root)
	must(t, e)
	for name, gone := range map[string]func(page int) api.Errno{
		"given back": func(page int) api.Errno { return space.Give(b, page) },
		"noughts":    func(page int) api.Errno { return b.Put(page, make([]byte, api.BlockSize)) },
	} {
		for _, number := range pages {
			undone(t, b, func() {
				must(t, gone(number))
				if found := deleteAll(t, b, root); found != (number != root || name == "noughts") {
					t.Fatalf("page %d, %s: found %v", number, name, found)
				}
			})
		}
	}
}

// deleteAll deletes all cells, till a call is told ErrShape: told is whether one is.
func deleteAll(t *testing.T, b *change.Book, root int) bool {
	t.Helper()
	for i := range grownCells {
		switch r, was, e := Delete(b, root, []byte(grownKey(i))); {
		case e == api.OK && r == root && was:
		case e == api.ErrShape && r == 0 && !was:
			return true
		default:
			t.Fatalf("Delete = %d, %v, %d", r, was, e)
		}
	}
	return false
}

// Each leaf's keys are not below the edge ahead of it, and below the one behind it.
func TestKeysAtTheEdges(t *testing.T) {
	b, root := grown(t)
	type place struct {
		n *node.Node
		s node.Span
	}
	var leaves []place
	must(t, eachNode(b, root, func(n *node.Node, s node.Span) api.Errno {
		if n.Level == 0 {
			leaves = append(leaves, place{n, s})
		}
		return api.OK
	}))
	below := func(key []byte) []byte { // the one that is next to it
		out := bytes.Repeat([]byte{255}, api.MaxKey)
		copy(out, key)
		out[len(key)-1]--
		return out
	}
	for at, leaf := range leaves {
		holds := func(key []byte, sound bool) {
			undone(t, b, func() {
				forge(t, b, &node.Node{Page: leaf.n.Page, Kind: node.LimbKind, Row: []api.Cell{{Key: key}}})
				if _, _, e := Check(b, root); (e == api.OK) != sound || !sound && e != api.ErrShape {
					t.Fatalf("Check = %d of a leaf from %q to %q with the key %q", e, leaf.s.Low, leaf.s.High, key)
				}
			})
		}
		if at > 0 {
			holds(leaf.s.Low, true)
			holds(below(leaf.s.Low), false)
		}
		if at < len(leaves)-1 {
			holds(below(leaf.s.High), true)
			holds(leaf.s.High, false)
		}
	}
}

func TestBetween(t *testing.T) {
	r := rand.New(rand.NewSource(7))
	for range 20000 {
		low, high := anyKey(r), anyKey(r)
		if bytes.Compare(low, high) >= 0 {
			continue
		}
		edge := between(low, high)
		if bytes.Compare(low, edge) >= 0 || bytes.Compare(edge, high) > 0 || !bytes.HasPrefix(high, edge) {
			t.Fatalf("between %v and %v: %v", low, high, edge)
		}
		if short := edge[:len(edge)-1]; bytes.Compare(low, short) < 0 {
			t.Fatalf("between %v and %v: %v, though %v is shorter", low, high, edge, short)
		}
	}
}

func anyKey(r *rand.Rand) []byte {
	out := make([]byte, 1+r.Intn(5))
	for i := range out {
		out[i] = byte(r.Intn(3)) * 127
	}
	return out
}

// What is cut has room, and neither part has fewer cells than may be, or less than the bound on a tree's pages asks for.
func TestMiddle(t *testing.T) {
	r := rand.New(rand.NewSource(8))
	for range 20000 {
		level := r.Intn(2)
		row := anyRow(r, level)
		at := middle(row)
		left, _, right := cut(level, row, at)
		if node.Size(left) > node.Room || node.Size(right) > node.Room {
			t.Fatalf("a row of %d was cut in %d and %d", node.Size(row), node.Size(left), node.Size(right))
		}
		if len(left) < node.Fewest(level) || len(right) < node.Fewest(level) {
			t.Fatalf("a row of %d cells was cut in %d and %d", len(row), len(left), len(right))
		}
		if level == 0 && min(node.Size(left), node.Size(right)) < 152 {
			t.Fatalf("a row of %d was cut in %d and %d", node.Size(row), node.Size(left), node.Size(right))
		}
	}
}

// anyRow is a row that had room, till one cell more was put there.
func anyRow(r *rand.Rand, level int) []api.Cell {
	long := r.Intn(api.MaxKey) + 1
	for {
		var row []api.Cell
		if level > 0 {
			row = append(row, api.Cell{Value: node.Numbered(1)})
		}
		for node.Size(row) <= node.Room {
			c := api.Cell{Key: make([]byte, 1+r.Intn(long)), Value: node.Numbered(1)}
			r.Read(c.Key)
			if level == 0 {
				c.Value = make([]byte, r.Intn(api.MaxCell-len(c.Key)+1))
			}
			row = append(row, c)
		}
		last := row[len(row)-1]
		row = slices.Insert(row[:len(row)-1], min(1, len(row)-1)+r.Intn(len(row)-1), last)
		return row
	}
}
