package names_test

import (
	"fmt"
	"math/rand"
	"slices"
	"strings"
	"testing"

	"parchment/api"
	"parchment/btree"
	"parchment/change"
	"parchment/device"
	"parchment/names"
	"parchment/restore"
	"parchment/space"
)

// P18.1 to P18.4 along long ways, and of the whole P2 and P5 as far as they touch this layer.

// is tells whether a book's names are these, in the chapter's words: each one's number is its place in the row, from 1 on; and whether just the pages are taken that they are on.
func is(b *change.Book, all []string) bool {
	for at, name := range all {
		n, is, e := names.Find(b, name)
		if n != at+1 || !is || e != api.OK {
			return false
		}
		if got, e := names.Name(b, at+1); got != name || e != api.OK {
			return false
		}
	}
	if _, e := names.Name(b, len(all)+1); e != api.ErrNone {
		return false
	}
	taken := ownOf(b.Pages())
	for which := 1; which <= 2; which++ {
		root, _ := space.Root(b, which)
		cells, pages, e := btree.Check(b, root)
		if cells != len(all) || e != api.OK {
			return false
		}
		taken += len(pages)
	}
	free, e := space.Free(b)
	return e == api.OK && free == b.Pages()-taken
}

// way is calls in a row, over a book and what its names must be.
type way struct {
	r      *rand.Rand
	d      *device.Device
	b      *change.Book
	safe   []string // behind what was committed
	now    []string
	many   int  // how many names there may be
	ending bool // a Commit was under way when the device crashed
	full   bool // the log, or the space: the transaction is to be undone
}

func newWay(t *testing.T, seed int64, pages int) *way {
	t.Helper()
	w := &way{r: rand.New(rand.NewSource(seed)), d: laid(t, pages)}
	w.many = 10 + w.r.Intn(1000)
	w.b = openedBook(t, w.d)
	want(t, "Begin", w.b.Begin(), api.OK)
	want(t, "space.Format", space.Format(w.b), api.OK)
	want(t, "Format", names.Format(w.b), api.OK)
	want(t, "Commit", w.b.Commit(), api.OK)
	return w
}

// done is whether a call is told what it must be; else the device has crashed, or the log or the space is full.
func (w *way) done(t *testing.T, call string, e, must api.Errno) bool {
	t.Helper()
	if e == api.ErrDown && w.d.Down() {
		return false
	}
	if e == api.ErrFull && must == api.OK && w.b.In() {
		w.full = true
		return false
	}
	want(t, call, e, must)
	return e == api.OK
}

// name is one of those that there may be, short or long, whose bytes are alike or are not.
func (w *way) name() string {
	i := w.r.Intn(w.many)
	switch i % 4 {
	case 0:
		return fmt.Sprint(i)
	case 1:
		return strings.Repeat("\xff", 90) + fmt.Sprint(i)
	case 2:
		return fmt.Sprintf("%0*d", 4+i%97, i)
	}
	return fmt.Sprint(i) + strings.Repeat("\x00", i%96)
}

func (w *way) number(t *testing.T) {
	t.Helper()
	name := w.name()
	must := api.OK
	if !w.b.In() {
		must = api.ErrState
	}
	n, e := names.Number(w.b, name)
	if !w.done(t, "Number", e, must) {
		if n != 0 {
			t.Fatalf("Number = %d, %d", n, e)
		}
		return
	}
	if at := slices.Index(w.now, name); at >= 0 {
		if n != at+1 {
			t.Fatalf("Number(%q) = %d; want %d", name, n, at+1)
		}
		return
	}
	w.now = append(slices.Clone(w.now), name)
	if n != len(w.now) {
		t.Fatalf("Number(%q) = %d; want %d", name, n, len(w.now))
	}
}

func (w *way) ask(t *testing.T) {
	t.Helper()
	name := w.name()
	n, is, e := names.Find(w.b, name)
	if at := slices.Index(w.now, name); w.done(t, "Find", e, api.OK) && (n != at+1 || is != (at >= 0)) || e != api.OK && (n != 0 || is) {
		t.Fatalf("Find(%q) = %d, %v, %d; want %d", name, n, is, e, at+1)
	}
	n = w.r.Intn(len(w.now) + 3)
	must, told := api.OK, ""
	if n < 1 || n > len(w.now) {
		must = api.ErrNone
	} else {
		told = w.now[n-1]
	}
	got, e := names.Name(w.b, n)
	if w.done(t, "Name", e, must) && got != told || e != api.OK && got != "" {
		t.Fatalf("Name(%d) = %q, %d; want %q", n, got, e, told)
	}
}

func (w *way) begin(t *testing.T) {
	t.Helper()
	if !w.b.In() {
		w.done(t, "Begin", w.b.Begin(), api.OK)
	}
}

func (w *way) commit(t *testing.T) {
	t.Helper()
	if !w.b.In() {
		return
	}
	w.ending = true
	if w.done(t, "Commit", w.b.Commit(), api.OK) {
		w.safe, w.ending = w.now, false
	}
}

func (w *way) abort(t *testing.T) {
	t.Helper()
	if w.b.In() && w.done(t, "Abort", w.b.Abort(), api.OK) {
		w.now, w.full = w.safe, false
	}
}

// step is any call; behind one that found no room the transaction is undone.
func (w *way) step(t *testing.T) {
	t.Helper()
	if w.full {
		w.abort(t)
		return
	}
	switch n := w.r.Intn(100); {
	case n < 20:
		w.begin(t)
	case n < 35:
		w.commit(t)
	case n < 38:
		w.abort(t)
	case n < 50:
		w.ask(t)
	default:
		w.number(t)
	}
}

// wake opens the book behind a crash, as often as it takes; its names are those that were committed last, or those whose Commit was under way.
func (w *way) wake(t *testing.T) {
	t.Helper()
	for {
		var fates []api.Fate
		for block := range w.d.Blocks() {
			fates = append(fates, api.Fate{Block: block, Keep: uint8(w.r.Intn(256))})
		}
		w.d.Wake(fates)
		w.d.Arm(w.r.Intn(40)) // 0: it goes through
		b, _, e := restore.Open(w.d, 8)
		if e == api.ErrDown {
			continue
		}
		want(t, "Open", e, api.OK)
		w.d.Arm(0)
		w.b = b
		break
	}
	if w.ending && is(w.b, w.now) {
		w.safe = w.now
	}
	w.now, w.ending, w.full = w.safe, false, false
	w.wantSame(t)
}

func (w *way) wantSame(t *testing.T) {
	t.Helper()
	if !is(w.b, w.now) {
		t.Fatalf("the names are not the %d that they must be", len(w.now))
	}
}

func TestLongWays(t *testing.T) {
	for seed := range int64(24) {
		w := newWay(t, seed, []int{10, 14, 20, 36, 70, 150, 300, 600}[seed%8])
		for i := range 1000 {
			w.step(t)
			if i%50 == 0 && !w.full {
				w.wantSame(t)
			}
		}
	}
}

func TestLongWaysWithCrashes(t *testing.T) {
	for seed := range int64(24) {
		w := newWay(t, seed, []int{10, 36, 150, 400}[seed%4])
		for range 20 {
			w.d.Arm(1 + w.r.Intn(60))
			for !w.d.Down() {
				w.step(t)
			}
			w.wake(t)
		}
	}
}
