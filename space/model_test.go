package space_test

import (
	"bytes"
	"math/rand"
	"testing"

	"parchment/api"
	"parchment/change"
	"parchment/device"
	"parchment/restore"
	"parchment/space"
)

// P14.4, and of the whole P2 and P5 as far as they touch this layer.

// plain is a space in the chapter's words, with what was put on the pages that are taken.
type plain struct {
	there bool // Format has made it
	pages int
	taken map[int]byte // by their numbers; the byte that each is full of in its first 20 bytes
	roots [8]int
}

func newPlain(pages int) plain {
	p := plain{there: true, pages: pages, taken: map[int]byte{}}
	for page := range ownOf(pages) {
		p.taken[page] = 0
	}
	return p
}

func (p plain) copy() plain {
	out := p
	out.taken = map[int]byte{}
	for page, x := range p.taken {
		out.taken[page] = x
	}
	return out
}

func (p plain) lowest() (int, bool) {
	for page := range p.pages {
		if _, is := p.taken[page]; !is {
			return page, true
		}
	}
	return 0, false
}

// mayGive is whether a page is taken, and none of the space's own.
func (p plain) mayGive(page int) bool {
	_, is := p.taken[page]
	return is && page >= ownOf(p.pages)
}

// is tells whether a book's space is this one.
func (p plain) is(b *change.Book) bool {
	n, e := space.Free(b)
	if !p.there {
		return e == api.ErrShape
	}
	if e != api.OK || n != p.pages-len(p.taken) {
		return false
	}
	for page := range p.pages {
		x, want := p.taken[page]
		is, e := space.Taken(b, page)
		if e != api.OK || is != want {
			return false
		}
		data, e := b.Page(page)
		if want && page >= ownOf(p.pages) && (e != api.OK || !bytes.Equal(data, marked(x))) {
			return false
		}
	}
	for which, page := range p.roots {
		if root, e := space.Root(b, which); e != api.OK || root != page {
			return false
		}
	}
	return true
}

// marked is a page whose first 20 bytes are of one byte.
func marked(x byte) []byte {
	return append(bytes.Repeat([]byte{x}, 20), of(0)[20:]...)
}

// way is calls in a row, over a book and what its space must be.
type way struct {
	r      *rand.Rand
	d      *device.Device
	b      *change.Book
	safe   plain // behind what was committed
	now    plain
	ending bool // a Commit was under way when the device crashed
	full   bool // the log is: what was put may be half of a call
}

func newWay(t *testing.T, seed int64, pages int) *way {
	t.Helper()
	w := &way{r: rand.New(rand.NewSource(seed)), d: laid(t, pages)}
	w.b = openedBook(t, w.d)
	w.safe = plain{pages: pages}
	w.now = w.safe.copy()
	return w
}

// done is whether a call is told what it must be; else the device has crashed, or the log is full.
func (w *way) done(t *testing.T, call string, e, must api.Errno) bool {
	t.Helper()
	if e == api.ErrDown && w.d.Down() {
		return false
	}
	if e == api.ErrFull && must == api.OK && w.b.In() {
		w.full = true
		return false
	}
	want(t, call, e, must)
	return e == api.OK
}

// told is what a call must be told that needs a transaction and a space.
func (w *way) told(may bool, e api.Errno) api.Errno {
	switch {
	case !w.b.In():
		return api.ErrState
	case !w.now.there:
		return api.ErrShape
	case !may:
		return e
	}
	return api.OK
}

func (w *way) format(t *testing.T) {
	t.Helper()
	must := api.OK
	if !w.b.In() {
		must = api.ErrState
	}
	if w.done(t, "Format", space.Format(w.b), must) {
		w.now = newPlain(w.b.Pages())
	}
}

func (w *way) take(t *testing.T) {
	t.Helper()
	lowest, any := w.now.lowest()
	page, e := space.Take(w.b)
	if w.done(t, "Take", e, w.told(any, api.ErrFull)) {
		if page != lowest {
			t.Fatalf("Take = %d; want %d", page, lowest)
		}
		w.now.taken[page] = 0
		if data, e := w.b.Page(page); e == api.OK && !bytes.Equal(data, of(0)) {
			t.Fatalf("page %d is none of noughts", page)
		}
	} else if page != 0 {
		t.Fatalf("Take = %d beside an error", page)
	}
}

func (w *way) give(t *testing.T) {
	t.Helper()
	page := w.r.Intn(w.b.Pages()+4) - 2
	if w.done(t, "Give", space.Give(w.b, page), w.told(w.now.mayGive(page), api.ErrArg)) {
		delete(w.now.taken, page)
	}
}

// put puts something on a page that is taken, as whoever has taken it does.
func (w *way) put(t *testing.T) {
	t.Helper()
	page, x := w.r.Intn(w.b.Pages()), byte(w.r.Intn(256))
	if w.b.In() && w.now.mayGive(page) && w.done(t, "Put", w.b.Put(page, marked(x)), api.OK) {
		w.now.taken[page] = x
	}
}

func (w *way) setRoot(t *testing.T) {
	t.Helper()
	which, page := w.r.Intn(8), w.r.Intn(w.b.Pages())
	if w.done(t, "SetRoot", space.SetRoot(w.b, which, page), w.told(true, api.OK)) {
		w.now.roots[which] = page
	}
}

func (w *way) begin(t *testing.T) {
	t.Helper()
	if !w.b.In() {
		w.done(t, "Begin", w.b.Begin(), api.OK)
	}
}

func (w *way) commit(t *testing.T) {
	t.Helper()
	if !w.b.In() {
		return
	}
	w.ending = true
	if w.done(t, "Commit", w.b.Commit(), api.OK) {
		w.safe, w.ending = w.now.copy(), false
	}
}

func (w *way) abort(t *testing.T) {
	t.Helper()
	if w.b.In() && w.done(t, "Abort", w.b.Abort(), api.OK) {
		w.now, w.full = w.safe.copy(), false
	}
}

// step is any call; behind one that found the log full the transaction is undone.
func (w *way) step(t *testing.T) {
	t.Helper()
	if w.full {
		w.abort(t)
		return
	}
	switch n := w.r.Intn(60); {
	case n < 1 || n < 10 && !w.now.there:
		w.format(t)
	case n < 20:
		w.take(t)
	case n < 34:
		w.give(t)
	case n < 40:
		w.put(t)
	case n < 46:
		w.setRoot(t)
	case n < 52:
		w.begin(t)
	case n < 57:
		w.commit(t)
	default:
		w.abort(t)
	}
}

// wake opens the book behind a crash, as often as it takes; its space is the one that was committed last, or the one whose Commit was under way.
func (w *way) wake(t *testing.T) {
	t.Helper()
	for {
		var fates []api.Fate
		for block := range w.d.Blocks() {
			fates = append(fates, api.Fate{Block: block, Keep: uint8(w.r.Intn(256))})
		}
		w.d.Wake(fates)
		w.d.Arm(w.r.Intn(40)) // 0: it goes through
		b, _, e := restore.Open(w.d, 8)
		if e == api.ErrDown {
			continue
		}
		want(t, "Open", e, api.OK)
		w.d.Arm(0)
		w.b = b
		break
	}
	if w.ending && w.now.is(w.b) {
		w.safe = w.now
	}
	w.now, w.ending, w.full = w.safe.copy(), false, false
	w.wantSame(t)
}

func (w *way) wantSame(t *testing.T) {
	t.Helper()
	if !w.now.is(w.b) {
		t.Fatalf("the space is none of %d pages, taken %v, roots %v", w.now.pages, w.now.taken, w.now.roots)
	}
}

func TestLongWays(t *testing.T) {
	for seed := range int64(60) {
		w := newWay(t, seed, []int{10, 11, 12, 20, 36, 70}[seed%6])
		for range 400 {
			w.step(t)
			if !w.full {
				w.wantSame(t)
			}
		}
	}
}

// Over the edges of the map's pages.
func TestLongWaysOfAGreatBook(t *testing.T) {
	w := newWay(t, 1, 4110)
	w.begin(t)
	w.format(t)
	for range 4090 {
		w.take(t)
	}
	w.commit(t)
	for range 60 {
		for range 30 {
			w.step(t)
		}
		w.wantSame(t)
	}
}

func TestLongWaysWithCrashes(t *testing.T) {
	for seed := range int64(40) {
		w := newWay(t, seed, []int{10, 13, 36}[seed%3])
		for range 25 {
			w.d.Arm(1 + w.r.Intn(60))
			for !w.d.Down() {
				w.step(t)
			}
			w.wake(t)
		}
	}
}
