package store_test

import (
	"bytes"
	"math"
	"math/rand"
	"slices"
	"strings"
	"testing"

	"parchment/api"
	"parchment/btree"
	"parchment/chain"
	"parchment/change"
	"parchment/key"
	"parchment/names"
	"parchment/space"
	"parchment/store"
)

// R1, R2 and ErrShape over trees and pages that no call of this package wrote, though they stand where a store does.

// What the tests know of the tree: under a label's bytes, as key.PutBytes writes them, stands a record. Its first byte has the kind in its three lowest bits, in the next four how many bytes the name's number has, and says in the highest one whether the rest is a chain's first page, or the value.
func record(kind api.Kind, name []byte, value ...byte) []byte {
	return slices.Concat([]byte{byte(kind) | byte(len(name))<<3}, name, value)
}

func chained(kind api.Kind, name []byte, first ...byte) []byte {
	out := record(kind, name, first...)
	out[0] |= 128
	return out
}

// cell lets a store's tree have a cell.
func cell(t *testing.T, b *change.Book, k, value []byte) {
	t.Helper()
	root, e := btree.Put(b, rootOf(t, b), k, value)
	want(t, "btree.Put", e, api.OK)
	want(t, "SetRoot", space.SetRoot(b, 5, root), api.OK)
}

// wantNotWhole holds what the calls are told that go through all nodes, where one of them is none, and that those stay which stand ahead of it, and behind it.
func wantNotWhole(t *testing.T, b *change.Book, ahead, behind api.Held) {
	t.Helper()
	wantNoRange(t, b, nil, nil, math.MaxInt, api.ErrShape)
	wantNoTree(t, b, api.ErrShape)
	wantGet(t, b, ahead)
	wantGet(t, b, behind)
	wantRange(t, b, nil, nil, 1, ahead)
	wantRange(t, b, behind.Label, nil, 9, behind)
}

// wantNoStore holds what is told by those that must know of all that a store holds.
func wantNoStore(t *testing.T, b *change.Book) {
	t.Helper()
	if pages, e := store.Pages(b); len(pages) > 0 || e != api.ErrShape {
		t.Fatalf("Pages = %v, %d", pages, e)
	}
	want(t, "Clear", store.Clear(b), api.ErrShape)
	want(t, "Load", store.Load(b, small()), api.ErrShape)
}

// A node's record is none.
func TestForgedRecords(t *testing.T) {
	ahead, behind := text([]byte{176}, value(600)), element([]byte{240}, "a")
	s := stored(t, 300, ahead, behind)
	l := []byte{192}
	one := []byte{1}
	for _, r := range [][]byte{
		nil, {}, record(api.Element, one)[:1], {5<<3 | 2, 0, 0, 0, 1}, {15<<3 | 2, 1}, chained(api.Text, nil), chained(api.Attribute, one), chained(api.Text, nil, 0), chained(api.Text, nil, 0, 0),
		chained(api.Attribute, one, 0), chained(api.Text, nil, slices.Repeat([]byte{255}, 8)...), chained(api.Text, nil, slices.Repeat([]byte{0}, 9)...), chained(api.Text, nil, 0, 0, 0, 0, 0, 0, 0, 0, 5),
		record(api.Element, slices.Repeat([]byte{255}, 8)), record(api.Element, slices.Repeat([]byte{0}, 9)), record(api.Element, []byte{0, 0, 0, 0, 0, 0, 0, 0, 1}), record(api.Element, append(make([]byte, 14), 1)),
		record(api.Element, []byte{128, 0, 0, 0, 0, 0, 0, 1}), chained(api.Text, nil, 128, 0, 0, 0, 0, 0, 0, 5), chained(api.Attribute, slices.Repeat([]byte{255}, 8), 5), chained(api.Attribute, make([]byte, 9), 5),
	} {
		undone(t, s.b, func() {
			cell(t, s.b, key.PutBytes(l), r)
			s.wantNothing(t, func() {
				wantNotWhole(t, s.b, ahead, behind)
				wantNoStore(t, s.b)
				wantNoGet(t, s.b, l, api.ErrShape)
				wantNoDelete(t, s.b, l, api.ErrShape)
				wantNoPut(t, s.b, text(l, "t"), api.ErrShape)
				if labels, e := store.Labels(s.b); len(labels) > 0 || e != api.ErrShape {
					t.Fatalf("Labels = %d, %d", len(labels), e)
				}
			})
			wantPut(t, s.b, text([]byte{188}, "t"))
		})
	}
	wantStore(t, s.b, ahead, behind)
}

// A record tells a node that no store has.
func TestForgedNodes(t *testing.T) {
	ahead, behind := text([]byte{176}, value(600)), element([]byte{240}, "a")
	s := stored(t, 300, ahead, behind)
	n, e := names.Number(s.b, "not a name")
	want(t, "Number", e, api.OK)
	long, e := names.Number(s.b, strings.Repeat("\xff", 100))
	want(t, "Number", e, api.OK)
	first, e := chain.Put(s.b, []byte(value(1000)))
	want(t, "chain.Put", e, api.OK)
	anew(t, s.b)
	l := []byte{192}
	one, page := []byte{1}, []byte{byte(first >> 8), byte(first)}
	for _, r := range [][]byte{
		record(0, nil), record(7, nil), record(0, one), record(7, one), {0}, {7}, record(7, nil, 'v'), record(api.Element, nil), record(api.Attribute, nil, 'v'), record(api.Instruction, nil, 'v'),
		record(api.Root, one), record(api.Root, nil, 'v'), record(api.Text, one, 'v'), record(api.Comment, one, 'v'), record(api.Element, one, 'v'),
		record(api.Element, []byte{byte(n)}), record(api.Attribute, []byte{byte(n)}, 'v'), record(api.Instruction, []byte{byte(n)}), record(api.Element, []byte{byte(long)}),
		record(api.Element, []byte{0}), record(api.Element, []byte{99}), record(api.Element, []byte{127, 255, 255, 255, 255, 255, 255, 255}), record(api.Attribute, []byte{1, 0}, 'v'),
		chained(api.Root, nil, page...), chained(api.Element, one, page...), chained(api.Text, one, page...), chained(0, nil, page...),
	} {
		undone(t, s.b, func() {
			cell(t, s.b, key.PutBytes(l), r)
			s.wantNothing(t, func() {
				wantNotWhole(t, s.b, ahead, behind)
				wantNoGet(t, s.b, l, api.ErrShape)
			})
			labels, e := store.Labels(s.b)
			if e != api.OK || len(labels) != 3 || !bytes.Equal(labels[1], l) {
				t.Fatalf("Labels = %v, %d", labels, e)
			}
			if r[0]&128 == 0 {
				want(t, "chain.Drop", chain.Drop(s.b, first), api.OK)
			}
			if r[0]&1 == 0 {
				wantDelete(t, s.b, l, true)
				wantStore(t, s.b, ahead, behind)
			} else {
				wantPut(t, s.b, text(l, value(900)))
				wantStore(t, s.b, ahead, text(l, value(900)), behind)
			}
			wantAlone(t, s.b)
		})
	}
	// And what is one, though nobody writes it so.
	for _, r := range [][]byte{record(api.Element, []byte{0, 0, 1}), record(api.Element, []byte{0, 0, 0, 0, 0, 0, 0, 1})} {
		undone(t, s.b, func() {
			cell(t, s.b, key.PutBytes(l), r)
			wantStore(t, s.b, ahead, element(l, "a"), behind)
		})
	}
	wantStore(t, s.b, ahead, behind)
}

// A value's chain is none: of a page of somebody else's, or of none.
func TestForgedChains(t *testing.T) {
	ahead, behind := text([]byte{176}, value(600)), element([]byte{240}, "a")
	s := stored(t, 300, ahead, behind)
	l := []byte{192}
	for _, first := range []int{1, 2, 3, rootOf(t, s.b), 200, 299, 300, 65535, 65536, 1 << 32, math.MaxInt} {
		undone(t, s.b, func() {
			cell(t, s.b, key.PutBytes(l), chained(api.Text, nil, key.PutInt(int64(first)+math.MinInt64)...))
			s.wantNothing(t, func() {
				wantNotWhole(t, s.b, ahead, behind)
				wantNoStore(t, s.b)
				wantNoGet(t, s.b, l, api.ErrShape)
				wantNoDelete(t, s.b, l, api.ErrShape)
				wantNoPut(t, s.b, text(l, "t"), api.ErrShape)
				wantNoPut(t, s.b, element(l, "new"), api.ErrShape)
			})
		})
	}
	// Two nodes have one chain: each has its value, till it is the other one's no more; the store is none.
	pages := wantPages(t, s.b)
	for _, first := range pages {
		if data, e := chain.Get(s.b, first); e != api.OK || len(data) != 600 {
			continue
		}
		undone(t, s.b, func() {
			cell(t, s.b, key.PutBytes(l), chained(api.Comment, nil, byte(first>>8), byte(first)))
			wantGet(t, s.b, ahead)
			wantGet(t, s.b, comment(l, value(600)))
			s.wantNothing(t, func() { wantNoStore(t, s.b) })
			wantDelete(t, s.b, l, true)
			wantNoGet(t, s.b, ahead.Label, api.ErrShape)
		})
	}
	wantStore(t, s.b, ahead, behind)
}

// A cell's key is no label's.
func TestForgedLabels(t *testing.T) {
	ahead, behind := root(), text([]byte{240}, "t")
	s := stored(t, 300, ahead, behind)
	r := record(api.Comment, nil, 'c')
	for _, l := range [][]byte{{128}, {160, 0}, {192, 0}, {1}, {160}, bytes.Repeat([]byte{219, 109, 182}, 43), make([]byte, 70)} {
		undone(t, s.b, func() {
			cell(t, s.b, key.PutBytes(l), r)
			s.wantNothing(t, func() {
				wantNotWhole(t, s.b, ahead, behind)
				wantNoStore(t, s.b)
				wantNoGet(t, s.b, l, api.ErrShape)
				wantNoDelete(t, s.b, l, api.ErrShape)
				wantNoPut(t, s.b, comment(l, "c"), api.ErrArg)
			})
		})
	}
	for _, k := range [][]byte{{0, 0, 0}, {0, 0, 1}, {192}, {192, 0}, {192, 0, 0, 0}, {192, 0, 0, 216}, {192, 0, 1}, {192, 216}, bytes.Repeat([]byte{192}, 160), make([]byte, 160)} {
		undone(t, s.b, func() {
			cell(t, s.b, k, r)
			s.wantNothing(t, func() {
				wantNotWhole(t, s.b, ahead, behind)
				wantNoStore(t, s.b)
				wantNoGet(t, s.b, []byte{192}, api.OK)
			})
			wantPut(t, s.b, comment([]byte{192}, "c"))
			wantGet(t, s.b, comment([]byte{192}, "c"))
		})
	}
	// Of a key that is full, whatever would stand behind it.
	undone(t, s.b, func() {
		cell(t, s.b, bytes.Repeat([]byte{255}, 160), r)
		wantNoGet(t, s.b, bytes.Repeat([]byte{255}, 200), api.ErrShape)
		wantNoDelete(t, s.b, bytes.Repeat([]byte{255}, 160), api.ErrShape)
		wantNoGet(t, s.b, bytes.Repeat([]byte{255}, 150), api.OK)
	})
	wantStore(t, s.b, ahead, behind)
}

// One page of a store is none of it: who comes there is told so, and nobody else is told anything that is wrong.
func TestForgedPages(t *testing.T) {
	x := append(broad(60), api.Node{Kind: api.Text, Value: strings.Repeat("long", 500), Parent: 1})
	s := loaded(t, 600, x)
	all := heldOf(t, x)
	for _, page := range wantPages(t, s.b) {
		for _, data := range [][]byte{of(0), of(255)} {
			undone(t, s.b, func() {
				want(t, "Put", s.b.Put(page, data), api.OK)
				s.wantNothing(t, func() {
					shapes := 0
					for _, h := range all {
						got, is, e := store.Get(s.b, h.Label)
						if e == api.ErrShape && !is && sameHeld(got, api.Held{}) {
							shapes++
						} else if !is || e != api.OK || !sameHeld(got, h) {
							t.Fatalf("Get(%v) = %s, %v, %d", h.Label, shown(got), is, e)
						}
					}
					if shapes == 0 || page == rootOf(t, s.b) && shapes != len(all) {
						t.Errorf("page %d is none, and %d calls were told so", page, shapes)
					}
					wantNoTree(t, s.b, api.ErrShape)
					wantNoRange(t, s.b, nil, nil, math.MaxInt, api.ErrShape)
					wantNoStore(t, s.b)
				})
			})
		}
	}
	wantTree(t, s.b, x)
}

// The root is that of another tree.
func TestForgedRoots(t *testing.T) {
	s := loaded(t, 300, small())
	for which := 1; which <= 2; which++ {
		other, e := space.Root(s.b, which)
		want(t, "Root", e, api.OK)
		undone(t, s.b, func() {
			want(t, "SetRoot", space.SetRoot(s.b, 5, other), api.OK)
			s.wantNothing(t, func() {
				wantNoRange(t, s.b, nil, nil, 99, api.ErrShape)
				wantNoTree(t, s.b, api.ErrShape)
				wantNoStore(t, s.b)
				wantNoGet(t, s.b, []byte{192}, api.OK)
			})
		})
	}
	wantTree(t, s.b, small())
}

// Whatever stands on the pages of a store: all calls end, and nothing stands beside an error.
func TestAnyBytes(t *testing.T) {
	x := append(broad(15), api.Node{Kind: api.Comment, Value: strings.Repeat("c", 1200), Parent: 1})
	s := loaded(t, 300, x)
	all := heldOf(t, x)
	pages := append(wantPages(t, s.b), namesPages(t, s.b)...)
	r := rand.New(rand.NewSource(19))
	seen := map[api.Errno]int{}
	for range 3000 {
		undone(t, s.b, func() {
			for range 1 + r.Intn(3) {
				bend(t, r, s.b, pages)
			}
			h := all[r.Intn(len(all))]
			got, is, e := store.Get(s.b, h.Label)
			if e != api.OK && (is || !sameHeld(got, api.Held{})) || is && !bytes.Equal(got.Label, h.Label) {
				t.Fatalf("Get = %s, %v, %d", shown(got), is, e)
			}
			seen[e]++
			told, labels, e := store.Tree(s.b)
			if (e == api.OK) != (len(told) > 0) || len(labels) != len(told) {
				t.Fatalf("Tree = %d, %d, %d", len(told), len(labels), e)
			}
			seen[e]++
			if e := anyChange(r, s.b, h, x); e != api.OK && e != api.ErrShape {
				t.Fatalf("a change is told %d", e)
			}
			seen[e]++
		})
	}
	if len(seen) != 2 || seen[api.OK] == 0 || seen[api.ErrShape] == 0 {
		t.Errorf("what was told: %v", seen)
	}
	wantTree(t, s.b, x)
}

func anyChange(r *rand.Rand, b *change.Book, h api.Held, x []api.Node) api.Errno {
	switch r.Intn(5) {
	case 0:
		return store.Put(b, h)
	case 1:
		is, e := store.Delete(b, h.Label)
		if is && e != api.OK {
			return -1
		}
		return e
	case 2:
		return store.Clear(b)
	case 3:
		return store.Load(b, x[:20])
	}
	pages, e := store.Pages(b)
	if (len(pages) > 0) != (e == api.OK) {
		return -1
	}
	return e
}

// bend changes one of some pages: bytes of it, or all.
func bend(t *testing.T, r *rand.Rand, b *change.Book, pages []int) {
	t.Helper()
	number := pages[r.Intn(len(pages))]
	p := pageOf(t, b, number)
	switch r.Intn(4) {
	case 0:
		p[r.Intn(12)] ^= 1 << r.Intn(8)
	case 1:
		p[r.Intn(api.BlockSize)] = byte(r.Intn(256))
	case 2:
		p = pageOf(t, b, pages[r.Intn(len(pages))])
	case 3:
		at := r.Intn(api.BlockSize)
		slices.Reverse(p[at:min(at+20, len(p))])
	}
	want(t, "Put", b.Put(number, p), api.OK)
}
