package chain_test

import (
	"bytes"
	"maps"
	"math/rand"
	"slices"
	"testing"

	"parchment/api"
	"parchment/chain"
	"parchment/change"
	"parchment/device"
	"parchment/restore"
	"parchment/space"
)

// P17.1 to P17.3 along long ways, and of the whole P2 and P5 as far as they touch this layer.

// plain are chains in the chapter's words: their values, by their first pages.
type plain map[int][]byte

// is tells whether a book's chains are these, and all its other pages free.
func (p plain) is(b *change.Book) bool {
	seen := map[int]int{}
	for first, data := range p {
		got, e := chain.Get(b, first)
		if e != api.OK || !bytes.Equal(got, data) {
			return false
		}
		pages, e := chain.Blocks(b, first)
		if e != api.OK || len(pages) > 1+len(data)/400 {
			return false
		}
		for _, page := range pages {
			if is, _ := space.Taken(b, page); !is || seen[page] > 0 {
				return false
			}
			seen[page]++
		}
	}
	free, e := space.Free(b)
	return e == api.OK && free == b.Pages()-ownOf(b.Pages())-len(seen)
}

// way is calls in a row, over a book and what its chains must be.
type way struct {
	r      *rand.Rand
	d      *device.Device
	b      *change.Book
	safe   plain // behind what was committed
	now    plain
	puts   int  // of ten steps, how many are Puts
	ending bool // a Commit was under way when the device crashed
	full   bool // the log, or the space: the transaction is to be undone
}

func newWay(t *testing.T, seed int64, pages int) *way {
	t.Helper()
	w := &way{r: rand.New(rand.NewSource(seed)), d: laid(t, pages), safe: plain{}, now: plain{}, puts: 6}
	w.b = openedBook(t, w.d)
	want(t, "Begin", w.b.Begin(), api.OK)
	want(t, "space.Format", space.Format(w.b), api.OK)
	want(t, "Commit", w.b.Commit(), api.OK)
	return w
}

// done is whether a call is told what it must be; else the device has crashed, or the log or the space is full.
func (w *way) done(t *testing.T, call string, e, must api.Errno) bool {
	t.Helper()
	if e == api.ErrDown && w.d.Down() {
		return false
	}
	if e == api.ErrFull && must == api.OK && w.b.In() {
		w.full = true
		return false
	}
	want(t, call, e, must)
	return e == api.OK
}

// told is what a call must be told that needs a transaction.
func (w *way) told() api.Errno {
	if !w.b.In() {
		return api.ErrState
	}
	return api.OK
}

// data is a value, short or long, of one byte or of any.
func (w *way) data() []byte {
	out := make([]byte, []int{1, 1 + w.r.Intn(20), 1 + w.r.Intn(600), 1 + w.r.Intn(2000), 502 * (1 + w.r.Intn(4))}[w.r.Intn(5)])
	if w.r.Intn(2) == 0 {
		w.r.Read(out)
		return out
	}
	x := byte(w.r.Intn(256))
	for at := range out {
		out[at] = x
	}
	return out
}

func (w *way) put(t *testing.T) {
	t.Helper()
	data := w.data()
	first, e := chain.Put(w.b, data)
	if !w.done(t, "Put", e, w.told()) {
		if first != 0 {
			t.Fatalf("Put = %d, %d", first, e)
		}
		return
	}
	if _, is := w.now[first]; is || first == 0 {
		t.Fatalf("Put = %d", first)
	}
	w.now[first] = data
}

func (w *way) drop(t *testing.T) {
	t.Helper()
	firsts := slices.Sorted(maps.Keys(w.now))
	if len(firsts) == 0 {
		return
	}
	first := firsts[w.r.Intn(len(firsts))]
	if w.done(t, "Drop", chain.Drop(w.b, first), w.told()) {
		delete(w.now, first)
		if e := chain.Drop(w.b, first); e != api.ErrShape && !w.d.Down() {
			t.Fatalf("Drop of a chain that is gone = %d", e)
		}
	}
}

func (w *way) begin(t *testing.T) {
	t.Helper()
	if !w.b.In() {
		w.done(t, "Begin", w.b.Begin(), api.OK)
	}
}

func (w *way) commit(t *testing.T) {
	t.Helper()
	if !w.b.In() {
		return
	}
	w.ending = true
	if w.done(t, "Commit", w.b.Commit(), api.OK) {
		w.safe, w.ending = maps.Clone(w.now), false
	}
}

func (w *way) abort(t *testing.T) {
	t.Helper()
	if w.b.In() && w.done(t, "Abort", w.b.Abort(), api.OK) {
		w.now, w.full = maps.Clone(w.safe), false
	}
}

// step is any call; behind one that found no room the transaction is undone.
func (w *way) step(t *testing.T) {
	t.Helper()
	if w.full {
		w.abort(t)
		w.puts = 3
		return
	}
	switch n := w.r.Intn(100); {
	case n < 3:
		w.puts = 2 + w.r.Intn(7)
	case n < 25:
		w.begin(t)
	case n < 45:
		w.commit(t)
	case n < 50:
		w.abort(t)
	case n%10 < w.puts:
		w.put(t)
	default:
		w.drop(t)
	}
}

// wake opens the book behind a crash, as often as it takes; its chains are those that were committed last, or those whose Commit was under way.
func (w *way) wake(t *testing.T) {
	t.Helper()
	for {
		var fates []api.Fate
		for block := range w.d.Blocks() {
			fates = append(fates, api.Fate{Block: block, Keep: uint8(w.r.Intn(256))})
		}
		w.d.Wake(fates)
		w.d.Arm(w.r.Intn(40)) // 0: it goes through
		b, _, e := restore.Open(w.d, 8)
		if e == api.ErrDown {
			continue
		}
		want(t, "Open", e, api.OK)
		w.d.Arm(0)
		w.b = b
		break
	}
	if w.ending && w.now.is(w.b) {
		w.safe = w.now
	}
	w.now, w.ending, w.full = maps.Clone(w.safe), false, false
	w.wantSame(t)
}

func (w *way) wantSame(t *testing.T) {
	t.Helper()
	if !w.now.is(w.b) {
		t.Fatalf("the chains are not the %d that they must be", len(w.now))
	}
}

func TestLongWays(t *testing.T) {
	for seed := range int64(24) {
		w := newWay(t, seed, []int{10, 20, 36, 70, 150, 300, 600, 1200}[seed%8])
		for i := range 1000 {
			w.step(t)
			if i%20 == 0 && !w.full {
				w.wantSame(t)
			}
		}
	}
}

func TestLongWaysWithCrashes(t *testing.T) {
	for seed := range int64(24) {
		w := newWay(t, seed, []int{10, 36, 150, 400}[seed%4])
		for range 25 {
			w.d.Arm(1 + w.r.Intn(60))
			for !w.d.Down() {
				w.step(t)
			}
			w.wake(t)
		}
	}
}
