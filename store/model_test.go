package store_test

import (
	"bytes"
	"fmt"
	"math"
	"math/rand"
	"slices"
	"testing"

	"parchment/api"
	"parchment/btree"
	"parchment/change"
	"parchment/device"
	"parchment/label"
	"parchment/names"
	"parchment/restore"
	"parchment/space"
	"parchment/store"
	"parchment/tree"
)

// P19.1 to P19.6 along long ways, and of the whole P2 and P5 as far as they touch this layer.

// model is what a store must be: its nodes, as their labels stand.
type model []api.Held

// with is a model that has a node, in the place of one of its label.
func (m model) with(h api.Held) model {
	at, is := slices.BinarySearchFunc(m, h, compare)
	if is {
		out := slices.Clone(m)
		out[at] = h
		return out
	}
	return slices.Insert(slices.Clone(m), at, h)
}

func (m model) without(l []byte) model {
	return slices.DeleteFunc(slices.Clone(m), func(h api.Held) bool { return bytes.Equal(h.Label, l) })
}

func (m model) node(l []byte) (api.Held, bool) {
	at, is := slices.BinarySearchFunc(m, api.Held{Label: l}, compare)
	if !is {
		return api.Held{}, false
	}
	return m[at], true
}

func (m model) cut(from, to []byte, most int) model {
	var out model
	for _, h := range m {
		if len(out) < most && bytes.Compare(h.Label, from) >= 0 && (len(to) == 0 || bytes.Compare(h.Label, to) < 0) {
			out = append(out, h)
		}
	}
	return out
}

// tree is the one whose nodes these are, if they are one's: each node's parent is the nearest one ahead that is above it, one level up.
func (m model) tree() ([]api.Node, bool) {
	var out []api.Node
	for at, h := range m {
		parent := at - 1
		for parent >= 0 && !label.Above(m[parent].Label, h.Label) {
			parent--
		}
		if parent >= 0 && label.Level(m[parent].Label) != label.Level(h.Label)-1 || parent < 0 && len(h.Label) > 0 {
			return nil, false
		}
		out = append(out, api.Node{Kind: h.Kind, Name: h.Name, Value: h.Value, Parent: parent})
	}
	return out, tree.Check(out) == api.OK
}

// is tells whether a book's store is a model, in the chapter's words; and whether just the pages are taken that it and the names are on.
func is(b *change.Book, m model) bool {
	all, e := store.Range(b, nil, nil, math.MaxInt)
	if e != api.OK || !slices.EqualFunc(all, m, sameHeld) {
		return false
	}
	labels, e := store.Labels(b)
	if e != api.OK || !slices.EqualFunc(labels, m, func(l []byte, h api.Held) bool { return bytes.Equal(l, h.Label) }) {
		return false
	}
	must, right := m.tree()
	x, labels, e := store.Tree(b)
	if right && (e != api.OK || !slices.Equal(x, must) || len(labels) != len(m)) || !right && e != api.ErrShape {
		return false
	}
	pages, e := store.Pages(b)
	if e != api.OK || !slices.IsSorted(pages) {
		return false
	}
	for which := 1; which <= 2; which++ {
		root, _ := space.Root(b, which)
		_, more, _ := btree.Check(b, root)
		pages = append(pages, more...)
	}
	if len(slices.Compact(slices.Sorted(slices.Values(pages)))) != len(pages) {
		return false
	}
	free, e := space.Free(b)
	return e == api.OK && free == b.Pages()-ownOf(b.Pages())-len(pages)
}

// way is calls in a row, over a book and what its store must be.
type way struct {
	r      *rand.Rand
	d      *device.Device
	b      *change.Book
	safe   model // behind what was committed
	now    model
	ending bool // a Commit was under way when the device crashed
	full   bool // the log, or the space: the transaction is to be undone
}

func newWay(t *testing.T, seed int64, pages int) *way {
	t.Helper()
	w := &way{r: rand.New(rand.NewSource(seed)), d: laid(t, pages)}
	w.b = openedBook(t, w.d)
	want(t, "Begin", w.b.Begin(), api.OK)
	want(t, "space.Format", space.Format(w.b), api.OK)
	want(t, "names.Format", names.Format(w.b), api.OK)
	want(t, "Format", store.Format(w.b), api.OK)
	want(t, "Commit", w.b.Commit(), api.OK)
	return w
}

// done is whether a call is told what it must be; else the device has crashed, or the log or the space is full.
func (w *way) done(t *testing.T, call string, e, must api.Errno) bool {
	t.Helper()
	if e == api.ErrDown && w.d.Down() {
		return false
	}
	if e == api.ErrFull && must == api.OK && w.b.In() {
		w.full = true
		return false
	}
	want(t, call, e, must)
	return e == api.OK
}

// within is what a call that changes something must be told.
func (w *way) within() api.Errno {
	if w.b.In() {
		return api.OK
	}
	return api.ErrState
}

// label is any: one that is there, one beside, above, below it.
func (w *way) label() []byte {
	if len(w.now) == 0 || w.r.Intn(10) == 0 {
		return [][]byte{nil, {192}, {176}}[w.r.Intn(3)]
	}
	l := w.now[w.r.Intn(len(w.now))].Label
	switch w.r.Intn(5) {
	case 0:
		if below, e := label.Kids(l, 1+w.r.Intn(9)); e == api.OK {
			l = below[w.r.Intn(len(below))]
		}
	case 1:
		if above, is := label.Parent(l); is {
			if beside, e := label.Between(above, l, nil); e == api.OK {
				l = beside
			}
		}
	case 2:
		if above, is := label.Parent(l); is {
			l = above
		}
	}
	return l
}

// node is any right one, of a label.
func (w *way) node(l []byte) api.Held {
	h := api.Held{Label: l, Kind: api.Kind(1 + w.r.Intn(6))}
	switch h.Kind {
	case api.Element, api.Attribute, api.Instruction:
		h.Name = fmt.Sprint("name", w.r.Intn(30))
	}
	if h.Kind > api.Element {
		h.Value = value([]int{w.r.Intn(20), w.r.Intn(300), w.r.Intn(3000)}[w.r.Intn(3)])
	}
	return h
}

func (w *way) put(t *testing.T) {
	t.Helper()
	h := w.node(w.label())
	must := w.within()
	if must == api.OK && w.r.Intn(8) == 0 {
		h.Label, must = append(slices.Clone(h.Label), 0), api.ErrArg
	}
	if w.done(t, "Put", store.Put(w.b, h), must) {
		w.now = w.now.with(h)
	}
}

func (w *way) delete(t *testing.T) {
	t.Helper()
	l := w.label()
	_, there := w.now.node(l)
	is, e := store.Delete(w.b, l)
	if w.done(t, "Delete", e, w.within()) {
		w.now = w.now.without(l)
	} else {
		there = false
	}
	if is != there {
		t.Fatalf("Delete(%v) = %v, %d; want %v", l, is, e, there)
	}
}

// any is any right tree.
func (w *way) any() []api.Node {
	out := []api.Node{{Kind: api.Root, Parent: -1}, {Kind: api.Element, Name: "top"}}
	open := []int{1}
	for range w.r.Intn(60) {
		parent := open[len(open)-1]
		n := api.Node{Kind: []api.Kind{api.Element, api.Comment, api.Text, api.Attribute}[w.r.Intn(4)], Parent: parent}
		last := len(out) - 1
		switch n.Kind {
		case api.Element:
			n.Name = fmt.Sprint("name", w.r.Intn(30))
			open = append(open, len(out))
		case api.Comment:
			n.Value = fmt.Sprint(w.r.Intn(100))
		case api.Text:
			n.Value = fmt.Sprintf("%0*d", 1+w.r.Intn(1000), w.r.Intn(100))
			if out[last].Kind == api.Text && out[last].Parent == parent {
				continue
			}
		case api.Attribute:
			n.Name, n.Value = "only", fmt.Sprintf("%0*d", 1+w.r.Intn(300), w.r.Intn(100))
			if last != parent {
				continue
			}
		}
		out = append(out, n)
		if len(open) > 1 && w.r.Intn(2) == 0 {
			open = open[:len(open)-1]
		}
	}
	return out
}

func (w *way) load(t *testing.T) {
	t.Helper()
	x := w.any()
	want(t, "tree.Check", tree.Check(x), api.OK)
	if w.done(t, "Load", store.Load(w.b, x), w.within()) {
		w.now = heldOf(t, x)
	}
}

func (w *way) clear(t *testing.T) {
	t.Helper()
	if w.done(t, "Clear", store.Clear(w.b), w.within()) {
		w.now = nil
	}
}

func (w *way) ask(t *testing.T) {
	t.Helper()
	l := w.label()
	must, there := w.now.node(l)
	h, is, e := store.Get(w.b, l)
	if w.done(t, "Get", e, api.OK) && (is != there || !sameHeld(h, must)) || e != api.OK && (is || !sameHeld(h, api.Held{})) {
		t.Fatalf("Get(%v) = %s, %v, %d; want %s, %v", l, shown(h), is, e, shown(must), there)
	}
	from, to, most := w.label(), w.label(), w.r.Intn(40)
	all, e := store.Range(w.b, from, to, most)
	if w.done(t, "Range", e, api.OK) && !slices.EqualFunc(all, w.now.cut(from, to, most), sameHeld) || e != api.OK && len(all) > 0 {
		t.Fatalf("Range(%v, %v, %d) = %d nodes, %d", from, to, most, len(all), e)
	}
}

func (w *way) begin(t *testing.T) {
	t.Helper()
	if !w.b.In() {
		w.done(t, "Begin", w.b.Begin(), api.OK)
	}
}

func (w *way) commit(t *testing.T) {
	t.Helper()
	if !w.b.In() {
		return
	}
	w.ending = true
	if w.done(t, "Commit", w.b.Commit(), api.OK) {
		w.safe, w.ending = w.now, false
	}
}

func (w *way) abort(t *testing.T) {
	t.Helper()
	if w.b.In() && w.done(t, "Abort", w.b.Abort(), api.OK) {
		w.now, w.full = w.safe, false
	}
}

// step is any call; behind one that found no room the transaction is undone.
func (w *way) step(t *testing.T) {
	t.Helper()
	if w.full {
		w.abort(t)
		return
	}
	switch n := w.r.Intn(100); {
	case n < 20:
		w.begin(t)
	case n < 32:
		w.commit(t)
	case n < 35:
		w.abort(t)
	case n < 50:
		w.ask(t)
	case n < 80:
		w.put(t)
	case n < 96:
		w.delete(t)
	case n < 99:
		w.load(t)
	default:
		w.clear(t)
	}
}

// wake opens the book behind a crash, as often as it takes; its store is what was committed last, or what the Commit was of that was under way.
func (w *way) wake(t *testing.T) {
	t.Helper()
	for {
		var fates []api.Fate
		for block := range w.d.Blocks() {
			fates = append(fates, api.Fate{Block: block, Keep: uint8(w.r.Intn(256))})
		}
		w.d.Wake(fates)
		w.d.Arm(w.r.Intn(40)) // 0: it goes through
		b, _, e := restore.Open(w.d, 8)
		if e == api.ErrDown {
			continue
		}
		want(t, "Open", e, api.OK)
		w.d.Arm(0)
		w.b = b
		break
	}
	if w.ending && is(w.b, w.now) {
		w.safe = w.now
	}
	w.now, w.ending, w.full = w.safe, false, false
	w.wantSame(t)
}

func (w *way) wantSame(t *testing.T) {
	t.Helper()
	if !is(w.b, w.now) {
		t.Fatalf("the store is not of the %d nodes that it must have", len(w.now))
	}
}

func TestLongWays(t *testing.T) {
	for seed := range int64(24) {
		w := newWay(t, seed, []int{10, 20, 36, 70, 150, 300, 600, 1200}[seed%8])
		for i := range 1500 {
			w.step(t)
			if i%25 == 0 && !w.full {
				w.wantSame(t)
			}
		}
	}
}

func TestLongWaysWithCrashes(t *testing.T) {
	for seed := range int64(24) {
		w := newWay(t, seed, []int{36, 150, 300, 400}[seed%4])
		for range 20 {
			w.d.Arm(1 + w.r.Intn(60))
			for !w.d.Down() {
				w.step(t)
			}
			w.wake(t)
		}
	}
}
