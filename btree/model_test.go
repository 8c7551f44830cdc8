package btree_test

import (
	"bytes"
	"maps"
	"math/rand"
	"slices"
	"strings"
	"testing"

	"parchment/api"
	"parchment/btree"
	"parchment/change"
	"parchment/device"
	"parchment/restore"
	"parchment/space"
)

// P15.2 to P15.4 along long ways, and of the whole P2 and P5 as far as they touch this layer.

// plain are trees in the chapter's words: their cells, by their roots.
type plain map[int]map[string]string

func (p plain) copy() plain {
	out := plain{}
	for root, cells := range p {
		out[root] = maps.Clone(cells)
	}
	return out
}

// is tells whether a book's trees are these, and all its other pages free.
func (p plain) is(b *change.Book) bool {
	taken := ownOf(b.Pages())
	seen := map[int]int{}
	for root, cells := range p {
		n, pages, e := btree.Check(b, root)
		if e != api.OK || n != len(cells) || len(pages) > 4+4*n {
			return false
		}
		for _, page := range pages {
			if is, _ := space.Taken(b, page); !is || seen[page] > 0 {
				return false
			}
			seen[page]++
		}
		for key, value := range cells {
			if v, is, e := btree.Get(b, root, []byte(key)); !is || e != api.OK || string(v) != value {
				return false
			}
		}
	}
	free, e := space.Free(b)
	return e == api.OK && free == b.Pages()-taken-len(seen)
}

// way is calls in a row, over a book and what its trees must be.
type way struct {
	r      *rand.Rand
	d      *device.Device
	b      *change.Book
	safe   plain // behind what was committed
	now    plain
	puts   int  // of ten steps with a cell, how many are Puts
	ending bool // a Commit was under way when the device crashed
	full   bool // the log, or the space: the transaction is to be undone
}

func newWay(t *testing.T, seed int64, pages int) *way {
	t.Helper()
	w := &way{r: rand.New(rand.NewSource(seed)), d: laid(t, pages), safe: plain{}, puts: 6}
	w.b = openedBook(t, w.d)
	want(t, "Begin", w.b.Begin(), api.OK)
	want(t, "space.Format", space.Format(w.b), api.OK)
	want(t, "Commit", w.b.Commit(), api.OK)
	w.now = w.safe.copy()
	return w
}

// done is whether a call is told what it must be; else the device has crashed, or the log or the space is full.
func (w *way) done(t *testing.T, call string, e, must api.Errno) bool {
	t.Helper()
	if e == api.ErrDown && w.d.Down() {
		return false
	}
	if e == api.ErrFull && must == api.OK && w.b.In() {
		w.full = true
		return false
	}
	want(t, call, e, must)
	return e == api.OK
}

// told is what a call must be told that needs a transaction.
func (w *way) told() api.Errno {
	if !w.b.In() {
		return api.ErrState
	}
	return api.OK
}

// root is any tree's.
func (w *way) root() (int, bool) {
	roots := slices.Sorted(maps.Keys(w.now))
	if len(roots) == 0 {
		return 0, false
	}
	return roots[w.r.Intn(len(roots))], true
}

// key is one of those that a tree has, or any one; short and long ones, of which many begin alike.
func (w *way) key(root int) string {
	if keys := slices.Sorted(maps.Keys(w.now[root])); len(keys) > 0 && w.r.Intn(3) == 0 {
		return keys[w.r.Intn(len(keys))]
	}
	out := strings.Repeat(string(rune('a'+w.r.Intn(2))), []int{0, 1, 40, 156, 156, 156}[w.r.Intn(6)])
	for range 1 + w.r.Intn(4) {
		out += string([]byte{byte(w.r.Intn(256))})
	}
	return out
}

func (w *way) value(key string) string {
	most := api.MaxCell - len(key)
	n := []int{0, 1, w.r.Intn(20), w.r.Intn(most + 1), most}[w.r.Intn(5)]
	return string(bytes.Repeat([]byte{byte(w.r.Intn(256))}, min(n, most)))
}

func (w *way) new(t *testing.T) {
	t.Helper()
	root, e := btree.New(w.b)
	if w.done(t, "New", e, w.told()) {
		if _, is := w.now[root]; is {
			t.Fatalf("two trees have the root %d", root)
		}
		w.now[root] = map[string]string{}
	}
}

// moved lets a tree have the root that a call has told.
func (w *way) moved(root, to int) {
	cells := w.now[root]
	delete(w.now, root)
	w.now[to] = cells
}

func (w *way) put(t *testing.T) {
	t.Helper()
	root, any := w.root()
	if !any {
		return
	}
	key := w.key(root)
	value := w.value(key)
	to, e := btree.Put(w.b, root, []byte(key), []byte(value))
	if w.done(t, "Put", e, w.told()) {
		w.now[root][key] = value
		w.moved(root, to)
	} else if to != 0 {
		t.Fatalf("Put = %d, %d", to, e)
	}
}

func (w *way) delete(t *testing.T) {
	t.Helper()
	root, any := w.root()
	if !any {
		return
	}
	key := w.key(root)
	to, was, e := btree.Delete(w.b, root, []byte(key))
	if w.done(t, "Delete", e, w.told()) {
		if _, is := w.now[root][key]; is != was {
			t.Fatalf("Delete(%q) = %v; want %v", key, was, is)
		}
		delete(w.now[root], key)
		w.moved(root, to)
	} else if to != 0 || was {
		t.Fatalf("Delete = %d, %v, %d", to, was, e)
	}
}

func (w *way) drop(t *testing.T) {
	t.Helper()
	if root, any := w.root(); any && w.done(t, "Drop", btree.Drop(w.b, root), w.told()) {
		delete(w.now, root)
		if e := btree.Drop(w.b, root); e != api.ErrShape && !w.d.Down() {
			t.Fatalf("Drop of a tree that is gone = %d", e)
		}
	}
}

func (w *way) begin(t *testing.T) {
	t.Helper()
	if !w.b.In() {
		w.done(t, "Begin", w.b.Begin(), api.OK)
	}
}

func (w *way) commit(t *testing.T) {
	t.Helper()
	if !w.b.In() {
		return
	}
	w.ending = true
	if w.done(t, "Commit", w.b.Commit(), api.OK) {
		w.safe, w.ending = w.now.copy(), false
	}
}

func (w *way) abort(t *testing.T) {
	t.Helper()
	if w.b.In() && w.done(t, "Abort", w.b.Abort(), api.OK) {
		w.now, w.full = w.safe.copy(), false
	}
}

// step is any call; behind one that found no room the transaction is undone.
func (w *way) step(t *testing.T) {
	t.Helper()
	if w.full {
		w.abort(t)
		w.puts = 3
		return
	}
	switch n := w.r.Intn(200); {
	case n < 2 && len(w.now) < 4 || w.b.In() && len(w.now) == 0:
		w.new(t)
	case n < 3:
		w.drop(t)
	case n < 4:
		w.puts = 2 + w.r.Intn(7)
	case n < 30:
		w.begin(t)
	case n < 50:
		w.commit(t)
	case n < 54:
		w.abort(t)
	case n%10 < w.puts:
		w.put(t)
	default:
		w.delete(t)
	}
}

// wake opens the book behind a crash, as often as it takes; its trees are those that were committed last, or those whose Commit was under way.
func (w *way) wake(t *testing.T) {
	t.Helper()
	for {
		var fates []api.Fate
		for block := range w.d.Blocks() {
			fates = append(fates, api.Fate{Block: block, Keep: uint8(w.r.Intn(256))})
		}
		w.d.Wake(fates)
		w.d.Arm(w.r.Intn(40)) // 0: it goes through
		b, _, e := restore.Open(w.d, 8)
		if e == api.ErrDown {
			continue
		}
		want(t, "Open", e, api.OK)
		w.d.Arm(0)
		w.b = b
		break
	}
	if w.ending && w.now.is(w.b) {
		w.safe = w.now
	}
	w.now, w.ending, w.full = w.safe.copy(), false, false
	w.wantSame(t)
}

func (w *way) wantSame(t *testing.T) {
	t.Helper()
	if !w.now.is(w.b) {
		t.Fatalf("the trees are none of %v", w.now)
	}
}

func TestLongWays(t *testing.T) {
	for seed := range int64(24) {
		w := newWay(t, seed, []int{10, 20, 36, 70, 150, 300, 600, 1200}[seed%8])
		for i := range 1500 {
			w.step(t)
			if i%25 == 0 && !w.full {
				w.wantSame(t)
			}
		}
	}
}

func TestLongWaysWithCrashes(t *testing.T) {
	for seed := range int64(24) {
		w := newWay(t, seed, []int{10, 36, 150, 400}[seed%4])
		for range 25 {
			w.d.Arm(1 + w.r.Intn(60))
			for !w.d.Down() {
				w.step(t)
			}
			w.wake(t)
		}
	}
}
