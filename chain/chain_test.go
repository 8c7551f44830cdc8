package chain_test

import (
	"bytes"
	"fmt"
	"math"
	"math/rand"
	"reflect"
	"slices"
	"testing"

	"parchment/api"
	"parchment/btree"
	"parchment/chain"
	"parchment/change"
	"parchment/device"
	"parchment/log"
	"parchment/pool"
	"parchment/restore"
	"parchment/space"
)

// shelf is a book and all that it is of.
type shelf struct {
	d *device.Device
	l *log.Log
	p *pool.Pool
	b *change.Book
}

// laid is a device whose book has so many pages.
func laid(t *testing.T, pages int) *device.Device {
	t.Helper()
	d := device.New(2 * (pages + 2))
	want(t, "change.Format", change.Format(d), api.OK)
	return d
}

// bare is a book of so many pages of noughts, with 8 frames, in a transaction.
func bare(t *testing.T, pages int) shelf {
	t.Helper()
	d := laid(t, pages)
	first, pages, at, count := change.Place(d.Blocks())
	l, e := log.Open(d, at, count, 1, 2)
	want(t, "log.Open", e, api.OK)
	p := pool.New(d, l, first, pages, 8)
	b := change.New(d, l, p)
	if b == nil {
		t.Fatal("no book")
	}
	want(t, "Begin", b.Begin(), api.OK)
	return shelf{d, l, p, b}
}

// shelved is such a book that has a space.
func shelved(t *testing.T, pages int) shelf {
	t.Helper()
	s := bare(t, pages)
	want(t, "space.Format", space.Format(s.b), api.OK)
	anew(t, s.b)
	return s
}

func book(t *testing.T, pages int) *change.Book {
	t.Helper()
	return shelved(t, pages).b
}

func openedBook(t *testing.T, d *device.Device) *change.Book {
	t.Helper()
	b, _, e := restore.Open(d, 8)
	want(t, "Open", e, api.OK)
	return b
}

// anew ends a book's transaction, and begins another one, for which the log has room again.
func anew(t *testing.T, b *change.Book) {
	t.Helper()
	want(t, "Commit", b.Commit(), api.OK)
	want(t, "Begin", b.Begin(), api.OK)
}

// undone undoes what is done to a book.
func undone(t *testing.T, b *change.Book, do func()) {
	t.Helper()
	do()
	want(t, "Abort", b.Abort(), api.OK)
	want(t, "Begin", b.Begin(), api.OK)
}

// of is a page of one byte.
func of(x byte) []byte {
	return bytes.Repeat([]byte{x}, api.BlockSize)
}

func crash(d *device.Device) {
	d.Arm(1)
	d.Sync()
}

func want(t *testing.T, call string, got, want api.Errno) {
	t.Helper()
	if got != want {
		t.Fatalf("%s = %d; want %d", call, got, want)
	}
}

func wantPut(t *testing.T, b *change.Book, data []byte) int {
	t.Helper()
	first, e := chain.Put(b, data)
	want(t, "Put", e, api.OK)
	if (first == 0) != (len(data) == 0) || first < 0 {
		t.Fatalf("Put of %d bytes = %d", len(data), first)
	}
	return first
}

func wantNoPut(t *testing.T, b *change.Book, data []byte, want api.Errno) {
	t.Helper()
	if first, e := chain.Put(b, data); first != 0 || e != want {
		t.Fatalf("Put of %d bytes = %d, %d; want %d", len(data), first, e, want)
	}
}

// wantChain holds a chain against its value, and what follows (P17.3); told are its pages.
func wantChain(t *testing.T, b *change.Book, first int, data []byte) []int {
	t.Helper()
	got, e := chain.Get(b, first)
	want(t, "Get", e, api.OK)
	if !bytes.Equal(got, data) {
		t.Fatalf("Get(%d) is %d bytes, other ones than the %d that were put", first, len(got), len(data))
	}
	pages, e := chain.Blocks(b, first)
	want(t, "Blocks", e, api.OK)
	if len(data) == 0 {
		if first != 0 || len(pages) > 0 {
			t.Fatalf("no bytes are the chain %d of the pages %v", first, pages)
		}
		return nil
	}
	if len(pages) > 1+len(data)/400 {
		t.Fatalf("%d bytes have %d pages", len(data), len(pages))
	}
	if !slices.Contains(pages, first) || len(slices.Compact(slices.Sorted(slices.Values(pages)))) != len(pages) {
		t.Fatalf("the pages of the chain %d are %v", first, pages)
	}
	for _, page := range pages {
		if is, e := space.Taken(b, page); !is || e != api.OK || page < ownOf(b.Pages()) {
			t.Fatalf("page %d of the chain is none that was taken", page)
		}
	}
	return pages
}

func wantDrop(t *testing.T, b *change.Book, first int, must api.Errno) {
	t.Helper()
	want(t, "Drop", chain.Drop(b, first), must)
}

// wantNoGet holds what the calls are told that only look.
func wantNoGet(t *testing.T, b *change.Book, first int, want api.Errno) {
	t.Helper()
	if data, e := chain.Get(b, first); len(data) > 0 || e != want {
		t.Fatalf("Get(%d) = %d bytes, %d; want %d", first, len(data), e, want)
	}
	if pages, e := chain.Blocks(b, first); len(pages) > 0 || e != want {
		t.Fatalf("Blocks(%d) = %v, %d; want %d", first, pages, e, want)
	}
}

// wantNoChain holds what each call is told of a page that is none of a chain's, or of a chain that is none.
func wantNoChain(t *testing.T, b *change.Book, first int) {
	t.Helper()
	changes := b.Changes()
	wantNoGet(t, b, first, api.ErrShape)
	wantDrop(t, b, first, api.ErrShape)
	if b.Changes() != changes {
		t.Fatalf("Drop(%d) has changed pages", first)
	}
}

// ownOf is how many pages of so many are a space's own, in the words of chapter 14.
func ownOf(pages int) int {
	m := 0
	for 4096*m < pages {
		m++
	}
	return 1 + m
}

func freeOf(t *testing.T, b *change.Book) int {
	t.Helper()
	n, e := space.Free(b)
	want(t, "Free", e, api.OK)
	return n
}

func taken(t *testing.T, b *change.Book) int {
	t.Helper()
	page, e := space.Take(b)
	want(t, "Take", e, api.OK)
	return page
}

func pageOf(t *testing.T, b *change.Book, page int) []byte {
	t.Helper()
	data, e := b.Page(page)
	want(t, "Page", e, api.OK)
	return data
}

// pagesOf are all pages of a book.
func pagesOf(t *testing.T, b *change.Book) [][]byte {
	t.Helper()
	var out [][]byte
	for page := range b.Pages() {
		out = append(out, pageOf(t, b, page))
	}
	return out
}

// wantNothing holds the pages and the log ahead of some calls against what they are behind them.
func (s shelf) wantNothing(t *testing.T, do func()) {
	t.Helper()
	pages, end, changes, in := pagesOf(t, s.b), s.l.End(), s.b.Changes(), s.b.In()
	do()
	if s.l.End() != end || s.b.Changes() != changes || s.b.In() != in {
		t.Fatal("the transaction has gone on")
	}
	if !reflect.DeepEqual(pagesOf(t, s.b), pages) {
		t.Fatal("pages were changed")
	}
}

// leave lets the log have just so many bytes of room, or up to 35 more, by records of somebody else's.
func (s shelf) leave(t *testing.T, room int) {
	t.Helper()
	for s.l.Room() > room+35 {
		r := api.Record{Kind: api.RecCommit, Tx: 1 << 60}
		if over := s.l.Room() - room; over > 700 {
			r = api.Record{Kind: api.RecUndo, Tx: 1 << 60, Span: api.Span{New: of(0)}}
		} else if over >= 52 && over <= 563 {
			r = api.Record{Kind: api.RecUndo, Tx: 1 << 60, Span: api.Span{New: make([]byte, over-51)}}
		}
		_, e := s.l.Append(r)
		want(t, "Append", e, api.OK)
	}
}

// wrongPages are numbers that no page of so many has.
func wrongPages(pages int) []int {
	return []int{-1, -2, -4096, pages, pages + 1, pages + 4096, 65535, 65536, 65538, 1 << 32, 1<<32 + 2, 1<<40 + 3, math.MinInt, math.MinInt + 2, math.MaxInt}
}

// kinds are values of so many bytes.
func kinds() map[string]func(n int) []byte {
	return map[string]func(n int) []byte{
		"noughts": func(n int) []byte { return make([]byte, n) },
		"highest": func(n int) []byte { return bytes.Repeat([]byte{255}, n) },
		"text":    func(n int) []byte { return bytes.Repeat([]byte("a long value, "), n)[:n] },
		"runs": func(n int) []byte { // of noughts and others, as long as a span's, and longer
			out := make([]byte, n)
			for i := range out {
				if i/8%2 == 1 {
					out[i] = byte(i)
				}
			}
			return out
		},
		"any": func(n int) []byte {
			out := make([]byte, n)
			rand.New(rand.NewSource(int64(n))).Read(out)
			return out
		},
	}
}

func value(n int) []byte {
	return kinds()["any"](n)
}

// lengths are of values, short and long ones, and around all that may be where a page ends.
func lengths() []int {
	out := []int{1, 2, 3, 64, 255, 256, 257, 399, 400, 401, 799, 800, 801, 9000, 32767, 32768, 65535, 65536}
	for _, one := range []int{498, 500, 502, 504, 506, 508, 510, 512} {
		for _, many := range []int{1, 2, 3, 10, 128} {
			for n := one*many - 1; n <= one*many+1; n++ {
				out = append(out, n)
			}
		}
	}
	slices.Sort(out)
	return slices.DeleteFunc(slices.Compact(out), func(n int) bool { return n > api.MaxText })
}

// The chapter's example.
func TestExample(t *testing.T) {
	b := book(t, 36)
	data := value(1000)
	f := wantPut(t, b, data)
	if pages := wantChain(t, b, f, data); len(pages) > 3 {
		t.Errorf("Blocks = %v", pages)
	}
	wantDrop(t, b, f, api.OK)
	chain.Get(b, f)
	if f := wantPut(t, b, nil); f != 0 {
		t.Errorf("Put = %d", f)
	}
	wantChain(t, b, 0, nil)
}

// P17.1.

func TestPutAndGet(t *testing.T) {
	for kind, data := range kinds() {
		t.Run(kind, func(t *testing.T) {
			b := book(t, 6000) // whose log has room for a long value's many short spans
			free := freeOf(t, b)
			for _, n := range lengths() {
				f := wantPut(t, b, data(n))
				pages := wantChain(t, b, f, data(n))
				if now := freeOf(t, b); now != free-len(pages) {
					t.Fatalf("%d pages are free, where %d were, and the chain has %d", now, free, len(pages))
				}
				anew(t, b)
				wantChain(t, b, f, data(n))
				wantDrop(t, b, f, api.OK)
				anew(t, b)
			}
		})
	}
}

// Each number of bytes up to some pages.
func TestAllLengths(t *testing.T) {
	b := book(t, 300)
	for n := 1; n <= 1600; n++ {
		f := wantPut(t, b, value(n))
		wantChain(t, b, f, value(n))
		wantDrop(t, b, f, api.OK)
		anew(t, b)
	}
}

// Whatever stood on the pages that it gets.
func TestPutOnPagesThatWereUsed(t *testing.T) {
	b := book(t, 300)
	old := wantPut(t, b, value(3000))
	for _, data := range [][]byte{of(1), of(64), of(65), of(255), pageOf(t, b, old)} {
		var pages []int
		for range 5 {
			page := taken(t, b)
			want(t, "Put", b.Put(page, data), api.OK)
			pages = append(pages, page)
		}
		for _, page := range pages {
			want(t, "Give", space.Give(b, page), api.OK)
		}
		anew(t, b)
		f := wantPut(t, b, value(2000))
		if got := wantChain(t, b, f, value(2000)); !slices.Contains(pages, got[0]) {
			t.Fatalf("none of the pages %v was taken, but %v", pages, got)
		}
		wantDrop(t, b, f, api.OK)
		anew(t, b)
	}
	wantChain(t, b, old, value(3000))
}

// A value that is too long is refused ahead of all that stands on the book, and changes nothing.
func TestLong(t *testing.T) {
	for _, s := range []shelf{shelved(t, 1200), shelved(t, 12), bare(t, 36)} {
		s.wantNothing(t, func() {
			for _, n := range []int{65537, 65538, 66000, 66038, 70000, 131072} {
				wantNoPut(t, s.b, value(n), api.ErrLong)
			}
		})
	}
}

// No bytes are the chain 0, which is there in any transaction, as often as one likes.
func TestNothing(t *testing.T) {
	full := shelved(t, 10)
	for range 8 {
		taken(t, full.b)
	}
	for _, s := range []shelf{shelved(t, 36), full, bare(t, 36)} {
		s.wantNothing(t, func() {
			for _, none := range [][]byte{nil, {}, make([]byte, 0, 100)} {
				if f := wantPut(t, s.b, none); f != 0 {
					t.Fatalf("Put = %d", f)
				}
				wantChain(t, s.b, 0, nil)
				wantDrop(t, s.b, 0, api.OK)
			}
		})
	}
}

// P17.2.

func TestDrop(t *testing.T) {
	b := book(t, 2400)
	stays := wantPut(t, b, value(5000))
	was := wantChain(t, b, stays, value(5000))
	for _, n := range lengths() {
		free := freeOf(t, b)
		f := wantPut(t, b, value(n))
		pages := wantChain(t, b, f, value(n))
		anew(t, b)
		undone(t, b, func() {
			wantDrop(t, b, f, api.OK)
			if now := freeOf(t, b); now != free {
				t.Fatalf("%d pages are free behind Drop, and %d were ahead of Put", now, free)
			}
			for _, page := range pages {
				if is, e := space.Taken(b, page); is || e != api.OK {
					t.Fatalf("page %d was not given back", page)
				}
				wantNoChain(t, b, page)
			}
		})
		wantChain(t, b, f, value(n))
		wantDrop(t, b, f, api.OK)
		anew(t, b)
	}
	if pages := wantChain(t, b, stays, value(5000)); !slices.Equal(pages, was) {
		t.Errorf("the other chain's pages %v have become %v", was, pages)
	}
}

// What was dropped is no chain, whoever has its pages now; and those who have them are left alone.
func TestDropAndTake(t *testing.T) {
	b := book(t, 300)
	f := wantPut(t, b, value(3000))
	pages := wantChain(t, b, f, value(3000))
	wantDrop(t, b, f, api.OK)
	for range pages {
		if page := taken(t, b); !slices.Contains(pages, page) {
			t.Fatalf("page %d was taken ahead of one of %v", page, pages)
		}
		wantNoChain(t, b, f)
	}
	for _, page := range pages {
		want(t, "Put", b.Put(page, of(64)), api.OK)
		wantNoChain(t, b, page)
	}
	anew(t, b)
	for _, page := range pages {
		if is, _ := space.Taken(b, page); !is || !bytes.Equal(pageOf(t, b, page), of(64)) {
			t.Fatalf("page %d is another one", page)
		}
	}
}

// A page that is none of a chain: noughts, the space's own, what is no page, a tree's, other people's; nor is one told that a chain has behind its first one.
func TestPagesThatAreNone(t *testing.T) {
	for _, pages := range []int{300, 4097, 8193} {
		s := shelved(t, pages)
		f := wantPut(t, s.b, value(4000))
		none := slices.DeleteFunc(wantChain(t, s.b, f, value(4000)), func(page int) bool { return page == f })
		root, e := btree.New(s.b)
		want(t, "btree.New", e, api.OK)
		for i := range 40 {
			root, e = btree.Put(s.b, root, fmt.Appendf(nil, "%0150d", i), []byte("1"))
			want(t, "btree.Put", e, api.OK)
			anew(t, s.b)
		}
		_, inner, e := btree.Check(s.b, root)
		want(t, "btree.Check", e, api.OK)
		none = append(none, inner...)
		for _, data := range [][]byte{of(0), of(1), of(64), of(65), of(255), append([]byte{1, 1, 0, 0, 0, 0, 0, 3, 0, 0, 'a'}, of(0)[11:]...)} {
			page := taken(t, s.b)
			want(t, "Put", s.b.Put(page, data), api.OK)
			none = append(none, page, page+1)
		}
		none = append(none, wrongPages(pages)...)
		none = append(none, pages-1)
		for page := range ownOf(pages) {
			if page > 0 {
				none = append(none, page)
			}
		}
		s.wantNothing(t, func() {
			for _, page := range none {
				wantNoChain(t, s.b, page)
			}
		})
		wantChain(t, s.b, f, value(4000))
	}
}

// The space's map may look as a chain's page does, if just those pages are taken.
func TestMapThatLooksLikeAChain(t *testing.T) {
	s := shelved(t, 8193)
	f := wantPut(t, s.b, []byte{7})
	looks := pageOf(t, s.b, f)
	anew(t, s.b)
	for _, page := range []int{1, 2, 3} {
		undone(t, s.b, func() {
			want(t, "Put", s.b.Put(page, looks), api.OK)
			wantNoChain(t, s.b, page)
		})
	}
	wantChain(t, s.b, f, []byte{7})
}

func TestNoSpace(t *testing.T) {
	s := bare(t, 36)
	s.wantNothing(t, func() {
		for _, n := range []int{1, 1000, 65536} {
			wantNoPut(t, s.b, value(n), api.ErrShape)
		}
		for page := 1; page < 36; page++ {
			wantNoChain(t, s.b, page)
		}
	})
	// A chain's pages are of the space, and none without it.
	s = shelved(t, 36)
	f := wantPut(t, s.b, value(1000))
	want(t, "Put", s.b.Put(0, of(0)), api.OK)
	s.wantNothing(t, func() {
		wantNoChain(t, s.b, f)
		wantNoPut(t, s.b, value(1), api.ErrShape)
	})
}

// P17.3.

// Of however many chains none has a page of another one's, or of a tree's; what was dropped is free.
func TestManyChains(t *testing.T) {
	b := book(t, 1200)
	root, e := btree.New(b)
	want(t, "btree.New", e, api.OK)
	free := freeOf(t, b)
	r := rand.New(rand.NewSource(17))
	chains := map[int][]byte{}
	var firsts []int
	for i := range 400 {
		if len(firsts) > 0 && r.Intn(5) < 2 {
			at := r.Intn(len(firsts))
			wantDrop(t, b, firsts[at], api.OK)
			delete(chains, firsts[at])
			firsts = slices.Delete(firsts, at, at+1)
		} else {
			data := value(1 + r.Intn(4000))
			f := wantPut(t, b, data)
			if _, is := chains[f]; is {
				t.Fatalf("two chains are %d", f)
			}
			chains[f] = data
			firsts = append(firsts, f)
		}
		root, e = btree.Put(b, root, fmt.Append(nil, i), value(100))
		want(t, "btree.Put", e, api.OK)
		anew(t, b)
	}
	_, trees, e := btree.Check(b, root)
	want(t, "btree.Check", e, api.OK)
	seen := map[int]int{}
	for _, page := range trees {
		seen[page]++
	}
	for f, data := range chains {
		for _, page := range wantChain(t, b, f, data) {
			if seen[page]++; seen[page] > 1 {
				t.Fatalf("page %d is taken twice", page)
			}
		}
	}
	if n := freeOf(t, b); n != free+1-len(seen) {
		t.Errorf("%d of %d pages are free, and %d are taken", n, free, len(seen))
	}
	for f := range chains {
		wantDrop(t, b, f, api.OK)
		anew(t, b)
	}
	if n := freeOf(t, b); n != free+1-len(trees) {
		t.Errorf("%d of %d pages are free behind all", n, free)
	}
}

// The errors' order, and those of the book and its space.

func TestNoTransaction(t *testing.T) {
	s := shelved(t, 300)
	f := wantPut(t, s.b, value(2000))
	want(t, "Commit", s.b.Commit(), api.OK)
	s.wantNothing(t, func() {
		for _, n := range []int{0, 1, 2000, 65536, 65537, 100000} {
			wantNoPut(t, s.b, value(n), api.ErrState)
		}
		for _, first := range append(wrongPages(300), 0, 1, f, f+1) {
			wantDrop(t, s.b, first, api.ErrState)
		}
		wantChain(t, s.b, f, value(2000))
		wantChain(t, s.b, 0, nil)
		wantNoGet(t, s.b, f+1, api.ErrShape)
	})
	crash(s.d)
	wantNoPut(t, s.b, value(1), api.ErrState)
	wantDrop(t, s.b, f, api.ErrState)
}

func TestNoBook(t *testing.T) {
	for _, b := range []*change.Book{nil, {}, change.New(nil, nil, nil)} {
		for _, n := range []int{0, 1, 65536, 65537} {
			wantNoPut(t, b, value(n), api.ErrNil)
		}
		for _, first := range append(wrongPages(36), 0, 1, 2, 3) {
			wantNoGet(t, b, first, api.ErrNil)
			wantDrop(t, b, first, api.ErrNil)
		}
	}
}

func TestDeviceThatIsDown(t *testing.T) {
	s := shelved(t, 300)
	f := wantPut(t, s.b, value(5000))
	want(t, "Commit", s.b.Commit(), api.OK)
	want(t, "Point", s.b.Point(), api.OK)
	for page := 200; page < 208; page++ { // so that none of the chain is in a frame
		s.b.Page(page)
		s.b.Page(page)
	}
	want(t, "Begin", s.b.Begin(), api.OK)
	crash(s.d)
	wantNoPut(t, s.b, value(1), api.ErrDown)
	wantNoPut(t, s.b, value(65537), api.ErrLong)
	wantNoGet(t, s.b, f, api.ErrDown)
	wantDrop(t, s.b, f, api.ErrDown)
	s.d.Wake(nil)
	wantChain(t, s.b, f, value(5000))
}

// The device crashes while a chain is gone through: what was read of it is not told.
func TestDeviceThatGoesDown(t *testing.T) {
	s := shelved(t, 300)
	f := wantPut(t, s.b, value(9000))
	pages := wantChain(t, s.b, f, value(9000))
	want(t, "Commit", s.b.Commit(), api.OK)
	want(t, "Point", s.b.Point(), api.OK)
	for page := 200; page < 208; page++ {
		s.b.Page(page)
		s.b.Page(page)
	}
	for _, page := range []int{0, 1, pages[0], pages[1], pages[2]} { // these alone are in frames
		s.b.Page(page)
	}
	want(t, "Begin", s.b.Begin(), api.OK)
	crash(s.d)
	wantNoGet(t, s.b, f, api.ErrDown)
	wantDrop(t, s.b, f, api.ErrDown)
	s.d.Wake(nil)
	wantChain(t, s.b, f, value(9000))
}

func TestFramesThatAreHeld(t *testing.T) {
	s := shelved(t, 300)
	f := wantPut(t, s.b, value(5000))
	for page := 200; page < 208; page++ {
		want(t, "Hold", s.p.Hold(page), api.OK)
	}
	wantNoPut(t, s.b, value(1), api.ErrBusy)
	wantNoGet(t, s.b, f, api.ErrBusy)
	wantDrop(t, s.b, f, api.ErrBusy)
	wantChain(t, s.b, 0, nil)
	for page := 200; page < 208; page++ {
		s.p.Leave(page)
	}
	wantChain(t, s.b, f, value(5000))
}

// A chain needs one frame alone at a time.
func TestOneFrame(t *testing.T) {
	s := shelved(t, 300)
	for page := 200; page < 207; page++ {
		want(t, "Hold", s.p.Hold(page), api.OK)
	}
	f := wantPut(t, s.b, value(9000))
	wantChain(t, s.b, f, value(9000))
	wantDrop(t, s.b, f, api.OK)
}

// A transaction that can only be ended takes no more changes.
func TestTransactionThatIsSealed(t *testing.T) {
	s := shelved(t, 36)
	f := wantPut(t, s.b, value(1000))
	s.d.Arm(1)
	want(t, "Commit", s.b.Commit(), api.ErrDown)
	s.d.Wake(nil)
	wantNoPut(t, s.b, value(1), api.ErrState)
	wantDrop(t, s.b, f, api.ErrState)
	wantChain(t, s.b, f, value(1000))
	want(t, "Abort", s.b.Abort(), api.OK)
	wantNoGet(t, s.b, f, api.ErrShape)
}

// Where too few pages are free a Put is told so; undone, all is as it was, and what there is room for is put.
func TestSpaceThatIsFull(t *testing.T) {
	s := shelved(t, 300)
	var spare []int
	for range 288 {
		spare = append(spare, taken(t, s.b))
	}
	anew(t, s.b)
	was := pagesOf(t, s.b)
	for n := 10*504 + 1; n <= 65536; n += 997 { // ten pages are free, and have room for no more than that
		undone(t, s.b, func() { wantNoPut(t, s.b, value(n), api.ErrFull) })
		if !reflect.DeepEqual(pagesOf(t, s.b), was) {
			t.Fatal("behind Abort all is not as it was")
		}
	}
	f := wantPut(t, s.b, value(9*400+399))
	wantChain(t, s.b, f, value(9*400+399))
	for freeOf(t, s.b) > 0 {
		taken(t, s.b)
	}
	wantNoPut(t, s.b, value(1), api.ErrFull)
	wantPut(t, s.b, nil)
	wantDrop(t, s.b, f, api.OK)
	want(t, "Give", space.Give(s.b, spare[0]), api.OK)
	f = wantPut(t, s.b, value(399))
	wantChain(t, s.b, f, value(399))
}

// With whatever room the log has left, a call is done, or it is told that the log is full; undone, all is as it was.
func TestLogThatIsFull(t *testing.T) {
	calls := map[string]func(b *change.Book, old int) api.Errno{
		"Put": func(b *change.Book, _ int) api.Errno {
			f, e := chain.Put(b, value(4000))
			if (f == 0) != (e != api.OK) {
				t.Fatalf("Put = %d, %d", f, e)
			}
			return e
		},
		"Drop": func(b *change.Book, old int) api.Errno { return chain.Drop(b, old) },
	}
	for name, call := range calls {
		done, full := 0, 0
		for room := 100; room < 30000; room += 60 + room/20 {
			s := shelved(t, 150)
			old := wantPut(t, s.b, value(6000))
			anew(t, s.b)
			was := pagesOf(t, s.b)
			s.leave(t, room)
			switch e := call(s.b, old); e {
			case api.OK:
				done++
			case api.ErrFull:
				full++
			default:
				t.Fatalf("%s with room for %d: %d", name, room, e)
			}
			want(t, "Abort", s.b.Abort(), api.OK)
			if !reflect.DeepEqual(pagesOf(t, s.b), was) {
				t.Fatalf("%s with room for %d: behind Abort all is not as it was", name, room)
			}
			wantChain(t, s.b, old, value(6000))
		}
		if done == 0 || full == 0 {
			t.Errorf("%s was done %d times, and found the log full %d times", name, done, full)
		}
	}
}

// R3, R5.

// What is handed in is not changed, nor its spare room, and not kept; what is handed out is new.
func TestHandedInAndOut(t *testing.T) {
	b := book(t, 300)
	for _, n := range []int{1, 100, 502, 504, 505, 3000} {
		data := append(make([]byte, 0, n+600), value(n)...)
		spare := data[:cap(data)]
		was := bytes.Clone(spare)
		f := wantPut(t, b, data)
		chain.Get(b, f)
		chain.Blocks(b, f)
		if !bytes.Equal(spare, was) {
			t.Fatal("Put has changed what it was handed")
		}
		for at := range spare {
			spare[at]++
		}
		pages := wantChain(t, b, f, value(n))
		got, _ := chain.Get(b, f)
		for at := range got[:cap(got)] {
			got[:cap(got)][at]++
		}
		first := slices.Clone(pages)
		for at := range pages[:cap(pages)] {
			pages[:cap(pages)][at] = -1
		}
		if again := wantChain(t, b, f, value(n)); !slices.Equal(again, first) {
			t.Fatalf("the pages %v have become %v", first, again)
		}
		anew(t, b)
	}
}

// Of the pages of a book, those of the chain are changed, and what the space says; no others.
func TestOtherPagesStay(t *testing.T) {
	s := shelved(t, 300)
	for page := 2; page < 300; page++ {
		want(t, "Put", s.b.Put(page, of(byte(page))), api.OK)
		if page%40 == 0 {
			anew(t, s.b)
		}
	}
	anew(t, s.b)
	f := wantPut(t, s.b, value(9000))
	mine := append(wantChain(t, s.b, f, value(9000)), 0, 1)
	wantDrop(t, s.b, f, api.OK)
	for page, data := range pagesOf(t, s.b) {
		if !slices.Contains(mine, page) && !bytes.Equal(data, of(byte(page))) {
			t.Errorf("page %d was changed", page)
		}
	}
}

// Calls that only look change nothing, in a transaction or without one.
func TestLooking(t *testing.T) {
	s := shelved(t, 300)
	f := wantPut(t, s.b, value(9000))
	look := func() {
		for first := range 300 {
			chain.Get(s.b, first)
			chain.Blocks(s.b, first)
		}
	}
	s.wantNothing(t, look)
	want(t, "Commit", s.b.Commit(), api.OK)
	s.wantNothing(t, look)
	wantChain(t, s.b, f, value(9000))
}

// Books have nothing in common.
func TestBooksShareNothing(t *testing.T) {
	a, b := book(t, 300), book(t, 300)
	in := wantPut(t, a, value(3000))
	other := wantPut(t, b, value(4000))
	wantDrop(t, a, in, api.OK)
	wantChain(t, b, other, value(4000))
	wantNoChain(t, a, in)
}

// A chain is what its pages say, and so it is found again by whoever opens the book.
func TestChainBehindACrash(t *testing.T) {
	d := laid(t, 300)
	b := openedBook(t, d)
	want(t, "Begin", b.Begin(), api.OK)
	want(t, "space.Format", space.Format(b), api.OK)
	f := wantPut(t, b, value(9000))
	anew(t, b)
	free := freeOf(t, b)
	wantPut(t, b, value(5000))
	wantDrop(t, b, f, api.OK)
	d.Wake(nil)
	b = openedBook(t, d)
	wantChain(t, b, f, value(9000))
	if n := freeOf(t, b); n != free {
		t.Errorf("%d pages are free, where %d were", n, free)
	}
}
