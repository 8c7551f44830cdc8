package cursor_test

import (
	"bytes"
	"fmt"
	"math"
	"math/rand"
	"reflect"
	"slices"
	"strings"
	"testing"

	"parchment/api"
	"parchment/btree"
	"parchment/change"
	"parchment/cursor"
	"parchment/node"
	"parchment/page"
	"parchment/space"
)

// R1, R2 and ErrShape over pages that no call of layer 15 wrote, though they look like a tree's.

const threeLevels = 16

// deep is a tree of three levels in a book, whose transaction has just begun.
func deep(t *testing.T) (*change.Book, int, []string) {
	t.Helper()
	b := shelved(t, 400).b
	root, keys := grown(t, b, rowOf(kinds()["long"], threeLevels)...)
	if n, e := node.Root(b, root); e != api.OK || n.Level != 2 {
		t.Fatalf("%d levels above the leaves, %d: no tree of three levels", n.Level, e)
	}
	want(t, "Commit", b.Commit(), api.OK)
	want(t, "Begin", b.Begin(), api.OK)
	return b, root, keys
}

// undone undoes what is done to a book.
func undone(t *testing.T, b *change.Book, do func()) {
	t.Helper()
	do()
	want(t, "Abort", b.Abort(), api.OK)
	want(t, "Begin", b.Begin(), api.OK)
}

// forge puts a node on its page, whatever is wrong with it.
func forge(t *testing.T, b *change.Book, n *node.Node) {
	t.Helper()
	p, is := n.Bytes()
	if !is {
		t.Fatal("there is no room for what is forged")
	}
	want(t, "Put", b.Put(n.Page, p), api.OK)
}

// wayTo is the nodes from a root to the leaf of a key.
func wayTo(t *testing.T, b *change.Book, root int, key string) []*node.Node {
	t.Helper()
	n, e := node.Root(b, root)
	want(t, "Root", e, api.OK)
	way := []*node.Node{n}
	for n.Level > 0 {
		n, e = n.Child(b, n.Row[node.Toward(n.Row, []byte(key))])
		want(t, "Child", e, api.OK)
		way = append(way, n)
	}
	return way
}

// told is what the calls are told of a tree at a key; what stands beside an error is held against zeros.
func told(t *testing.T, b *change.Book, root int, key string) (next, back, all api.Errno) {
	t.Helper()
	ask := func(call string) api.Errno {
		c := wantNew(t, b, root)
		wantSeek(t, c, key)
		x, is, e := steps[call](c)
		if (e != api.OK || !is) && (is || !reflect.DeepEqual(x, api.Cell{})) {
			t.Fatalf("%s = %q, %v, %d", call, x, is, e)
		}
		return e
	}
	row, all := cursor.Range(b, root, nil, nil, math.MaxInt)
	if all != api.OK && len(row) > 0 {
		t.Fatalf("Range = %q, %d", row, all)
	}
	rises := slices.IsSortedFunc(row, func(x, y api.Cell) int { return bytes.Compare(x.Key, y.Key) })
	if !rises {
		t.Fatalf("Range = %q", row)
	}
	return ask("Next"), ask("Back"), all
}

func TestForgedPages(t *testing.T) {
	b, root, keys := deep(t)
	key := keys[threeLevels/2]
	way := wayTo(t, b, root, key)
	limb, leaf := way[1].Page, way[2].Page
	children := func(to int) func(n *node.Node) {
		return func(n *node.Node) {
			for at := range n.Row {
				n.Row[at].Value = node.Numbered(to)
			}
		}
	}
	cells := func(row ...api.Cell) func(n *node.Node) { return func(n *node.Node) { n.Row = row } }
	for _, x := range []struct {
		name string
		at   int // of the way: 0 is the root, 2 the leaf
		bend func(n *node.Node)
	}{
		{"the root is a limb", 0, func(n *node.Node) { n.Kind = node.LimbKind }},
		{"the root is of another level", 0, func(n *node.Node) { n.Level++ }},
		{"the limb is a root", 1, func(n *node.Node) { n.Kind = node.RootKind }},
		{"the limb is of another level", 1, func(n *node.Node) { n.Level++ }},
		{"the leaf is a root", 2, func(n *node.Node) { n.Kind = node.RootKind }},
		{"the leaf is a limb", 2, func(n *node.Node) { n.Level, n.Row = 1, way[1].Row }},
		{"the leaf is of another kind", 2, func(n *node.Node) { n.Kind = 32 }},
		{"the root's children are itself", 0, children(root)},
		{"the root's children are leaves", 0, children(leaf)},
		{"the limb's children are the root", 1, children(root)},
		{"the limb's children are itself", 1, children(limb)},
		{"children are the page 0", 0, children(0)},
		{"children are the map", 1, children(1)},
		{"children are a free page", 1, children(390)},
		{"children are no pages", 1, children(65535)},
		{"children are as many as pages", 1, children(b.Pages())},
		{"two first children", 0, func(n *node.Node) { n.Row[0].Key, n.Row[1].Key = nil, nil }},
		{"no first child", 0, func(n *node.Node) { n.Row = slices.DeleteFunc(n.Row, func(c api.Cell) bool { return len(c.Key) == 0 }) }},
		{"one child", 1, cells(api.Cell{Value: node.Numbered(leaf)})},
		{"no child", 1, cells()},
		{"no cell", 2, cells()},
		{"a child of one byte", 1, func(n *node.Node) { n.Row[0].Value = []byte{1} }},
		{"a child of three bytes", 1, func(n *node.Node) { n.Row[0].Value = append(n.Row[0].Value, 0) }},
		{"a child's key too long", 1, cells(api.Cell{Value: node.Numbered(leaf)}, api.Cell{Key: make([]byte, 161), Value: node.Numbered(leaf)})},
		{"a key of no bytes", 2, func(n *node.Node) { n.Row[0].Key = nil }},
		{"a key too long", 2, cells(api.Cell{Key: make([]byte, 161)})},
		{"a cell too long", 2, cells(api.Cell{Key: []byte("k"), Value: make([]byte, 200)})},
		{"two cells of one key", 2, func(n *node.Node) { n.Row = append(n.Row[:1:1], n.Row[0]) }},
		{"a key below all that may be", 2, cells(api.Cell{Key: []byte("a")})},
		{"a key above all that may be", 2, cells(api.Cell{Key: []byte("z")})},
		{"two children of one key", 1, func(n *node.Node) {
			row := node.Ordered(n.Row)
			n.Row = []api.Cell{row[0], row[1], row[1]}
		}},
		{"the limb's keys above all that may be", 1, func(n *node.Node) {
			n.Row = append(n.Row, api.Cell{Key: []byte("z"), Value: n.Row[0].Value})
		}},
		{"the limb's keys below all that may be", 1, func(n *node.Node) {
			n.Row = append(n.Row, api.Cell{Key: []byte("a"), Value: n.Row[0].Value})
		}},
	} {
		t.Run(x.name, func(t *testing.T) {
			undone(t, b, func() {
				n := wayTo(t, b, root, key)[x.at]
				x.bend(n)
				forge(t, b, n)
				if next, back, all := told(t, b, root, key); next != api.ErrShape || back != api.ErrShape || all != api.ErrShape {
					t.Errorf("Next = %d, Back = %d, Range = %d", next, back, all)
				}
			})
		})
	}
	wantAll(t, wantNew(t, b, root), keys)
}

// Bytes that are no cells, on pages that are right ones; and a page that says that another one is next.
func TestForgedBytes(t *testing.T) {
	b, root, keys := deep(t)
	key := keys[threeLevels/2]
	for _, n := range wayTo(t, b, root, key) {
		next, _ := n.Bytes()
		page.SetNext(next, 1)
		rows := [][]byte{next}
		for _, cell := range [][]byte{{}, {1}, {2, 'k'}, {255, 'k'}} {
			p, _ := n.Bytes()
			page.Delete(p, 0)
			page.Insert(p, 0, cell)
			rows = append(rows, p)
		}
		for _, p := range rows {
			undone(t, b, func() {
				want(t, "Put", b.Put(n.Page, p), api.OK)
				if next, back, all := told(t, b, root, key); next != api.ErrShape || back != api.ErrShape || all != api.ErrShape {
					t.Errorf("Next = %d, Back = %d, Range = %d of the bytes %v", next, back, all, p[:20])
				}
			})
		}
	}
}

// Keys may be as low as the edge ahead of their leaf, and not as high as the one behind it.
func TestKeysAtTheEdges(t *testing.T) {
	b, root, keys := deep(t)
	high := node.Ordered(wayTo(t, b, root, keys[0])[0].Row)[1].Key
	way := wayTo(t, b, root, keys[ahead(keys, string(high))-1]) // to the last leaf of the first limb
	row := node.Ordered(way[1].Row)
	low, leaf := row[len(row)-1].Key, way[2]
	below := func(key []byte) []byte { // the one that is next to it
		out := bytes.Repeat([]byte{255}, api.MaxKey)
		copy(out, key)
		out[len(key)-1]--
		return out
	}
	for _, x := range []struct {
		key  []byte
		must api.Errno
	}{{low, api.OK}, {below(low), api.ErrShape}, {below(high), api.OK}, {high, api.ErrShape}} {
		undone(t, b, func() {
			leaf.Row = []api.Cell{{Key: x.key}}
			forge(t, b, leaf)
			row, e := cursor.Range(b, root, low, high, 9)
			if e != x.must || e == api.OK && (len(row) != 1 || !bytes.Equal(row[0].Key, x.key)) {
				t.Fatalf("Range = %q, %d of a leaf with the key %q", row, e, x.key)
			}
		})
	}
}

// Pages that are children of one another's, so that there are more ways down than anyone could go: each call ends.
func TestWaysWithoutNumber(t *testing.T) {
	for name, edges := range map[string]func(level, i int) string{
		"alike":     func(level, i int) string { return strings.Repeat("m", i) },
		"different": func(level, i int) string { return fmt.Sprintf("%02d%02d", level, i) },
		"high":      func(level, i int) string { return strings.Repeat("\xff", 20) + fmt.Sprint(level, 10+i) },
	} {
		t.Run(name, func(t *testing.T) {
			b := shelved(t, 400).b
			below := &node.Node{Kind: node.LimbKind, Row: []api.Cell{{Key: []byte("b")}, {Key: []byte("mm")}}}
			for level := range node.MaxLevel + 1 {
				n := &node.Node{Kind: node.LimbKind, Level: level, Row: below.Row}
				number, e := space.Take(b)
				want(t, "Take", e, api.OK)
				n.Page = number
				if level > 0 {
					n.Row = nil
					for i := range 10 {
						key := []byte(edges(level, i))
						if i == 0 {
							key = nil
						}
						n.Row = append(n.Row, api.Cell{Key: key, Value: node.Numbered(below.Page)})
					}
				}
				if level == node.MaxLevel {
					n.Kind = node.RootKind
				}
				forge(t, b, n)
				roomy(t, b)
				below = n
			}
			for _, key := range []string{"", "a", "b", "m", "mmm", "z", strings.Repeat("\xff", 30)} {
				told(t, b, below.Page, key)
				c := wantNew(t, b, below.Page)
				for range 100 {
					c.Next()
				}
				for range 100 {
					c.Back()
				}
				cursor.Range(b, below.Page, []byte(key), nil, math.MaxInt)
			}
			if _, _, all := told(t, b, below.Page, ""); all != api.ErrShape {
				t.Errorf("Range = %d", all)
			}
		})
	}
}

// Whatever stands on a tree's pages: all calls end, nothing stands beside an error, and where the tree is sound all of it is told.
func TestAnyBytes(t *testing.T) {
	b, root, keys := deep(t)
	_, pages, e := btree.Check(b, root)
	want(t, "Check", e, api.OK)
	r := rand.New(rand.NewSource(16))
	seen := map[api.Errno]int{}
	for range 1500 {
		undone(t, b, func() {
			for range 1 + r.Intn(3) {
				bend(t, r, b, pages)
			}
			key := keys[r.Intn(len(keys))]
			next, back, all := told(t, b, root, key[:1+r.Intn(len(key))])
			n, _, e := btree.Check(b, root)
			if all != e {
				t.Fatalf("Range = %d; Check = %d", all, e)
			}
			if row, _ := cursor.Range(b, root, nil, nil, math.MaxInt); len(row) != n {
				t.Fatalf("%d cells of %d", len(row), n)
			}
			if e == api.OK && (next != api.OK || back != api.OK) {
				t.Fatalf("Next = %d, Back = %d of a tree that is sound", next, back)
			}
			seen[all]++
			seen[next]++
			seen[back]++
		})
	}
	if len(seen) != 2 || seen[api.OK] == 0 || seen[api.ErrShape] == 0 {
		t.Errorf("what was told: %v", seen)
	}
}

// bend changes one of some pages: bytes of it, or all, or what its node says.
func bend(t *testing.T, r *rand.Rand, b *change.Book, pages []int) {
	t.Helper()
	number := pages[r.Intn(len(pages))]
	p, e := b.Page(number)
	want(t, "Page", e, api.OK)
	switch r.Intn(4) {
	case 0:
		p[r.Intn(12)] ^= 1 << r.Intn(8)
	case 1:
		p[r.Intn(api.BlockSize)] = byte(r.Intn(256))
	case 2:
		p, _ = b.Page(pages[r.Intn(len(pages))])
	case 3:
		if n, is := node.Parse(p); is {
			p = bent(r, n, p, pages)
		}
	}
	want(t, "Put", b.Put(number, p), api.OK)
}

// bent is a page whose node has another key, or another child.
func bent(r *rand.Rand, n *node.Node, p []byte, pages []int) []byte {
	at := r.Intn(len(n.Row))
	switch {
	case n.Level == 0 && r.Intn(2) == 0:
		n.Row[at].Key[len(n.Row[at].Key)-1] ^= byte(1 + r.Intn(15))
	case n.Level == 0:
		n.Row[at].Key = bytes.Repeat([]byte{byte(r.Intn(256))}, 1+r.Intn(40))
	case r.Intn(2) == 0:
		n.Row[at].Value = node.Numbered(pages[r.Intn(len(pages))])
	case len(n.Row[at].Key) > 0:
		n.Row[at].Key = bytes.Repeat([]byte{byte(r.Intn(256))}, 1+r.Intn(160))
	}
	if q, is := n.Bytes(); is {
		return q
	}
	return p
}
