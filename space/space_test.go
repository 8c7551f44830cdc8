package space_test

import (
	"bytes"
	"math"
	"reflect"
	"slices"
	"testing"

	"parchment/api"
	"parchment/change"
	"parchment/device"
	"parchment/log"
	"parchment/pool"
	"parchment/restore"
	"parchment/space"
)

// shelf is a book and all that it is of.
type shelf struct {
	d *device.Device
	l *log.Log
	p *pool.Pool
	b *change.Book
}

// laid is a device whose book has so many pages.
func laid(t *testing.T, pages int) *device.Device {
	t.Helper()
	d := device.New(2 * (pages + 2))
	want(t, "change.Format", change.Format(d), api.OK)
	return d
}

// shelved is a book of so many pages of noughts, with 8 frames, in no transaction.
func shelved(t *testing.T, pages int) shelf {
	t.Helper()
	d := laid(t, pages)
	first, pages, at, count := change.Place(d.Blocks())
	l, e := log.Open(d, at, count, 1, 2)
	want(t, "log.Open", e, api.OK)
	p := pool.New(d, l, first, pages, 8)
	b := change.New(d, l, p)
	if b == nil {
		t.Fatal("no book")
	}
	return shelf{d, l, p, b}
}

// begun is such a book in a transaction.
func begun(t *testing.T, pages int) shelf {
	t.Helper()
	s := shelved(t, pages)
	want(t, "Begin", s.b.Begin(), api.OK)
	return s
}

// formatted is such a book that has a space.
func formatted(t *testing.T, pages int) shelf {
	t.Helper()
	s := begun(t, pages)
	want(t, "Format", space.Format(s.b), api.OK)
	return s
}

// anew ends a book's transaction, and begins another one, for which the log has room again.
func anew(t *testing.T, b *change.Book) {
	t.Helper()
	want(t, "Commit", b.Commit(), api.OK)
	want(t, "Begin", b.Begin(), api.OK)
}

// fill puts a byte all over a page, in a transaction of its own: it takes much of a small log.
func fill(t *testing.T, b *change.Book, page int, x byte) {
	t.Helper()
	anew(t, b)
	want(t, "Put", b.Put(page, of(x)), api.OK)
	anew(t, b)
}

// of is a page of one byte.
func of(x byte) []byte {
	return bytes.Repeat([]byte{x}, api.BlockSize)
}

func crash(d *device.Device) {
	d.Arm(1)
	d.Sync()
}

// ownOf is how many pages of so many are a space's own, in the chapter's words.
func ownOf(pages int) int {
	m := 0
	for 4096*m < pages {
		m++
	}
	return 1 + m
}

func want(t *testing.T, call string, got, want api.Errno) {
	t.Helper()
	if got != want {
		t.Fatalf("%s = %d; want %d", call, got, want)
	}
}

func wantTake(t *testing.T, b *change.Book, page int) {
	t.Helper()
	if got, e := space.Take(b); got != page || e != api.OK {
		t.Fatalf("Take = %d, %d; want %d", got, e, page)
	}
	if data, e := b.Page(page); e != api.OK || !bytes.Equal(data, of(0)) {
		t.Fatalf("page %d, which was taken, has %v, %d", page, data, e)
	}
}

func wantNoTake(t *testing.T, b *change.Book, want api.Errno) {
	t.Helper()
	if got, e := space.Take(b); got != 0 || e != want {
		t.Fatalf("Take = %d, %d; want %d", got, e, want)
	}
}

func wantGive(t *testing.T, b *change.Book, page int, want api.Errno) {
	t.Helper()
	if e := space.Give(b, page); e != want {
		t.Fatalf("Give(%d) = %d; want %d", page, e, want)
	}
}

func wantFree(t *testing.T, b *change.Book, count int) {
	t.Helper()
	if got, e := space.Free(b); got != count || e != api.OK {
		t.Fatalf("Free = %d, %d; want %d", got, e, count)
	}
}

func wantTaken(t *testing.T, b *change.Book, page int, is bool) {
	t.Helper()
	if got, e := space.Taken(b, page); got != is || e != api.OK {
		t.Fatalf("Taken(%d) = %v, %d; want %v", page, got, e, is)
	}
}

func wantRoot(t *testing.T, b *change.Book, which, page int) {
	t.Helper()
	if got, e := space.Root(b, which); got != page || e != api.OK {
		t.Fatalf("Root(%d) = %d, %d; want %d", which, got, e, page)
	}
}

func wantSetRoot(t *testing.T, b *change.Book, which, page int, want api.Errno) {
	t.Helper()
	if e := space.SetRoot(b, which, page); e != want {
		t.Fatalf("SetRoot(%d, %d) = %d; want %d", which, page, e, want)
	}
}

// wantNew holds a space against what Format makes.
func wantNew(t *testing.T, b *change.Book) {
	t.Helper()
	pages := b.Pages()
	own := ownOf(pages)
	wantFree(t, b, pages-own)
	for page := range pages {
		wantTaken(t, b, page, page < own)
	}
	for which := range 8 {
		wantRoot(t, b, which, 0)
	}
}

// wantAll holds what each of the calls is told against an error; those that take arguments get these.
func wantAll(t *testing.T, b *change.Book, page, which int, changing, asking api.Errno) {
	t.Helper()
	wantNoTake(t, b, changing)
	wantGive(t, b, page, changing)
	wantSetRoot(t, b, which, page, changing)
	wantAsking(t, b, page, which, asking)
}

func wantAsking(t *testing.T, b *change.Book, page, which int, want api.Errno) {
	t.Helper()
	if n, e := space.Free(b); n != 0 || e != want {
		t.Fatalf("Free = %d, %d; want %d", n, e, want)
	}
	if is, e := space.Taken(b, page); is || e != want {
		t.Fatalf("Taken(%d) = %v, %d; want %d", page, is, e, want)
	}
	if r, e := space.Root(b, which); r != 0 || e != want {
		t.Fatalf("Root(%d) = %d, %d; want %d", which, r, e, want)
	}
}

// pagesOf are all pages of a book.
func pagesOf(t *testing.T, b *change.Book) [][]byte {
	t.Helper()
	var out [][]byte
	for page := range b.Pages() {
		data, e := b.Page(page)
		want(t, "Page", e, api.OK)
		out = append(out, data)
	}
	return out
}

// sight is what of a space can be told.
type sight struct {
	free  int
	taken []bool
	roots [8]int
}

func (s shelf) sight(t *testing.T) sight {
	t.Helper()
	n, e := space.Free(s.b)
	want(t, "Free", e, api.OK)
	out := sight{free: n}
	for page := range s.b.Pages() {
		is, e := space.Taken(s.b, page)
		want(t, "Taken", e, api.OK)
		out.taken = append(out.taken, is)
	}
	for which := range 8 {
		out.roots[which], e = space.Root(s.b, which)
		want(t, "Root", e, api.OK)
	}
	return out
}

// wantNothing holds the pages and the log ahead of some calls against what they are behind them.
func (s shelf) wantNothing(t *testing.T, do func()) {
	t.Helper()
	pages, end, changes, in := pagesOf(t, s.b), s.l.End(), s.b.Changes(), s.b.In()
	do()
	if s.l.End() != end || s.b.Changes() != changes || s.b.In() != in {
		t.Fatal("the transaction has gone on")
	}
	if !reflect.DeepEqual(pagesOf(t, s.b), pages) {
		t.Fatal("pages were changed")
	}
}

// leave lets the log have just so many bytes of room, or up to 35 more, by records of somebody else's.
func (s shelf) leave(t *testing.T, room int) {
	t.Helper()
	for s.l.Room() > room+35 {
		r := api.Record{Kind: api.RecCommit, Tx: 1 << 60}
		if over := s.l.Room() - room; over > 700 {
			r = api.Record{Kind: api.RecUndo, Tx: 1 << 60, Span: api.Span{New: of(0)}}
		} else if over >= 52 && over <= 563 {
			r = api.Record{Kind: api.RecUndo, Tx: 1 << 60, Span: api.Span{New: make([]byte, over-51)}}
		}
		_, e := s.l.Append(r)
		want(t, "Append", e, api.OK)
	}
}

// sizes are how many pages books have: as few as may be, as the examples', around what one page of the map says and what more of them do, and as many as may be.
func sizes() []int {
	return []int{10, 11, 17, 36, 4094, 4095, 4096, 4097, 4098, 8191, 8192, 8193, 12288, 12289, 32766}
}

// wrongPages are numbers that no page of so many has.
func wrongPages(pages int) []int {
	return []int{-1, -2, -8, -4096, pages, pages + 1, pages + 7, pages + 4096, 65535, 65536, 65538, 1 << 32, 1<<32 + 2, 1<<40 + 3, math.MinInt, math.MinInt + 2, math.MaxInt}
}

var wrongRoots = []int{-1, 8, 9, -8, 256, 1 << 32, 1<<61 + 1, math.MinInt, math.MaxInt}

// The chapter's example.
func TestExample(t *testing.T) {
	b := formatted(t, 36).b
	wantTake(t, b, 2)
	wantTake(t, b, 3)
	wantGive(t, b, 2, api.OK)
	wantTake(t, b, 2)
	wantFree(t, b, 32)
	for _, page := range []int{0, 1, 9} {
		wantGive(t, b, page, api.ErrArg)
	}
	wantSetRoot(t, b, 7, 35, api.OK)
	wantRoot(t, b, 7, 35)
	if r, e := space.Root(b, 8); r != 0 || e != api.ErrArg {
		t.Errorf("Root(8) = %d, %d", r, e)
	}
}

// P14.1.

func TestFormat(t *testing.T) {
	for _, pages := range sizes() {
		b := formatted(t, pages).b
		if b.Pages() != pages {
			t.Fatalf("a book of %d pages, not %d", b.Pages(), pages)
		}
		wantNew(t, b)
		want(t, "Commit", b.Commit(), api.OK)
		wantNew(t, b)
	}
}

// Whatever stood on the pages, the space's own ones too; what stands on the others is left till they are taken.
func TestFormatOfABookThatWasUsed(t *testing.T) {
	for _, pages := range []int{10, 36, 4097, 8193} {
		for _, x := range []byte{1, 128, 255} {
			b := begun(t, pages).b
			own := ownOf(pages)
			used := slices.Concat([]int{own, own + 1, pages - 1}, []int{0, 1, own - 1})
			for _, page := range used {
				fill(t, b, page, x)
			}
			want(t, "Format", space.Format(b), api.OK)
			wantNew(t, b)
			anew(t, b)
			for _, page := range used[:3] {
				if data, _ := b.Page(page); !bytes.Equal(data, of(x)) {
					t.Fatalf("page %d was changed", page)
				}
			}
			wantTake(t, b, own)
			anew(t, b)
			wantTake(t, b, own+1)
		}
	}
}

// A space that is formatted once more is as new as the first time.
func TestFormatAgain(t *testing.T) {
	for _, pages := range []int{10, 36, 4100, 8200} {
		b := formatted(t, pages).b
		first := pagesOf(t, b)[:ownOf(pages)]
		for range pages - ownOf(pages) {
			if _, e := space.Take(b); e != api.OK {
				t.Fatal(e)
			}
		}
		for which := range 8 {
			wantSetRoot(t, b, which, pages-1-which, api.OK)
		}
		wantFree(t, b, 0)
		want(t, "Format", space.Format(b), api.OK)
		wantNew(t, b)
		if !reflect.DeepEqual(pagesOf(t, b)[:ownOf(pages)], first) {
			t.Error("the space's own pages are others than the first time")
		}
		wantTake(t, b, ownOf(pages))
	}
}

// Without a space each other call is told ErrShape, ahead of a page that is none, and changes nothing.
func TestNoSpace(t *testing.T) {
	s := begun(t, 36)
	other := formatted(t, 37)
	strange, _ := other.b.Page(0)
	for _, data := range [][]byte{of(0), of(1), of(255), append([]byte{1}, of(0)[1:]...), append(of(0)[1:], 1), strange} {
		want(t, "Put", s.b.Put(0, data), api.OK)
		s.wantNothing(t, func() {
			for _, page := range append(wrongPages(36), 0, 1, 2, 35) {
				wantNoTake(t, s.b, api.ErrShape)
				wantGive(t, s.b, page, api.ErrShape)
				wantAsking(t, s.b, page, 3, api.ErrShape)
			}
			for which := range 8 {
				wantSetRoot(t, s.b, which, 5, api.ErrShape)
				wantAsking(t, s.b, 2, which, api.ErrShape)
			}
		})
	}
	want(t, "Format", space.Format(s.b), api.OK)
	wantNew(t, s.b)
	want(t, "Abort", s.b.Abort(), api.OK)
	wantAll(t, s.b, 2, 0, api.ErrState, api.ErrShape)
}

// A page 0 with any of its bytes bent is none that Format makes.
func TestBentPage(t *testing.T) {
	s := formatted(t, 36)
	for which := range 4 {
		wantSetRoot(t, s.b, which, 35-which, api.OK)
	}
	right, _ := s.b.Page(0)
	for at := range right {
		bent := slices.Clone(right)
		bent[at] ^= 255
		want(t, "Put", s.b.Put(0, bent), api.OK)
		wantAll(t, s.b, 2, 0, api.ErrShape, api.ErrShape)
		anew(t, s.b)
	}
	want(t, "Put", s.b.Put(0, right), api.OK)
	wantRoot(t, s.b, 3, 32)
	wantFree(t, s.b, 34)
}

// Nor is one whose roots are no pages, whatever else is right.
func TestRootsThatAreNoPages(t *testing.T) {
	s := formatted(t, 36)
	for which := range 8 {
		wantSetRoot(t, s.b, which, 35, api.OK)
	}
	right, _ := s.b.Page(0)
	for at := range right {
		bent := slices.Clone(right)
		bent[at]++
		want(t, "Put", s.b.Put(0, bent), api.OK)
		wantAll(t, s.b, 2, 0, api.ErrShape, api.ErrShape)
		anew(t, s.b)
	}
}

// P14.2.

func TestTakeAll(t *testing.T) {
	for _, pages := range []int{10, 11, 36, 4095, 4096, 4097, 8193} {
		b := formatted(t, pages).b
		own := ownOf(pages)
		for page := own; page < pages; page++ {
			wantTake(t, b, page)
			wantTaken(t, b, page, true)
			wantTaken(t, b, page+1, false)
			if page < own+5 || page%511 == 0 || page > pages-5 {
				wantFree(t, b, pages-1-page)
			}
		}
		wantNoTake(t, b, api.ErrFull)
		wantFree(t, b, 0)
		for page := range pages {
			wantTaken(t, b, page, true)
		}
		wantGive(t, b, pages-1, api.OK)
		wantTake(t, b, pages-1)
		wantNoTake(t, b, api.ErrFull)
	}
}

// It is the lowest free page that is taken, wherever on the map its bit stands.
func TestTakeTheLowest(t *testing.T) {
	pages := 8193
	b := formatted(t, pages).b
	for range pages - ownOf(pages) {
		space.Take(b)
	}
	rows := [][]int{{8192, 4}, {4095, 4096}, {4096, 4095}, {8191, 8192}, {8192, 8191}, {7, 8, 9}, {16, 15}, {4103, 4104, 12}, {5000, 500, 50, 5}}
	for _, row := range rows {
		for _, page := range row {
			wantGive(t, b, page, api.OK)
			wantTaken(t, b, page, false)
		}
		wantFree(t, b, len(row))
		slices.Sort(row)
		for _, page := range row {
			wantTake(t, b, page)
		}
		wantNoTake(t, b, api.ErrFull)
	}
}

// A page that is taken is all of noughts, whatever was put on it while it was taken, or free, or ahead of all.
func TestTakeMakesNoughts(t *testing.T) {
	b := begun(t, 36).b
	for page := 2; page < 36; page++ {
		fill(t, b, page, byte(page))
	}
	want(t, "Format", space.Format(b), api.OK)
	for page := 2; page < 36; page++ {
		anew(t, b)
		wantTake(t, b, page)
	}
	for page := 2; page < 36; page++ {
		fill(t, b, page, byte(page))
		wantGive(t, b, page, api.OK)
		wantTake(t, b, page)
		wantGive(t, b, page, api.OK)
		data := of(0)
		data[page] = 1
		want(t, "Put", b.Put(page, data), api.OK)
		wantTake(t, b, page)
	}
}

func TestGiveRefuses(t *testing.T) {
	for _, pages := range []int{10, 36, 4096, 4097, 32766} {
		s := formatted(t, pages)
		own := ownOf(pages)
		for range 4 {
			space.Take(s.b)
		}
		wantGive(t, s.b, own+2, api.OK)
		was, end := s.sight(t), s.l.End()
		for page := range own {
			wantGive(t, s.b, page, api.ErrArg)
		}
		for _, page := range append(wrongPages(pages), own+2, own+4, own+5, pages-1) {
			wantGive(t, s.b, page, api.ErrArg)
		}
		if s.l.End() != end || !reflect.DeepEqual(s.sight(t), was) {
			t.Error("a Give that was refused has changed something")
		}
		wantGive(t, s.b, own+3, api.OK)
		wantGive(t, s.b, own+3, api.ErrArg)
		wantFree(t, s.b, pages-own-2)
	}
}

func TestTakenOfNoPage(t *testing.T) {
	for _, pages := range sizes() {
		b := formatted(t, pages).b
		for _, page := range wrongPages(pages) {
			if page < 0 || page >= pages { // some are pages of a great book
				wantTaken(t, b, page, false)
			}
		}
	}
}

// Whatever stood on the map's pages ahead of Format, behind the last page there is nothing that is taken, or free.
func TestBehindTheLastPage(t *testing.T) {
	for _, pages := range []int{10, 36, 4095, 4097} {
		for _, x := range []byte{0, 255} {
			b := begun(t, pages).b
			for page := range ownOf(pages) {
				fill(t, b, page, x)
			}
			want(t, "Format", space.Format(b), api.OK)
			for _, page := range wrongPages(pages) {
				wantTaken(t, b, page, false)
				wantGive(t, b, page, api.ErrArg)
			}
			anew(t, b)
			for page := ownOf(pages); page < pages; page++ {
				wantTake(t, b, page)
			}
			wantNoTake(t, b, api.ErrFull)
			wantFree(t, b, 0)
		}
	}
}

// P14.3.

func TestRoots(t *testing.T) {
	for _, pages := range []int{10, 36, 300, 4097, 32766} {
		b := formatted(t, pages).b
		var roots [8]int
		for i, page := range []int{0, pages - 1, 1, pages - 2, 9, 2, pages / 2, pages - 1, 0, 3, pages - 1, pages - 1, 0} {
			for which := range 8 {
				roots[which] = (page + which*i) % pages
				wantSetRoot(t, b, which, roots[which], api.OK)
				for other := range 8 {
					wantRoot(t, b, other, roots[other])
				}
			}
			anew(t, b)
		}
		wantFree(t, b, pages-ownOf(pages))
	}
}

func TestRootsRefuse(t *testing.T) {
	for _, space0 := range []bool{true, false} {
		s := begun(t, 36)
		if space0 {
			want(t, "Format", space.Format(s.b), api.OK)
			wantSetRoot(t, s.b, 7, 35, api.OK)
		}
		s.wantNothing(t, func() {
			for _, which := range wrongRoots {
				if r, e := space.Root(s.b, which); r != 0 || e != api.ErrArg {
					t.Fatalf("Root(%d) = %d, %d", which, r, e)
				}
				for _, page := range append(wrongPages(36), 0, 35) {
					wantSetRoot(t, s.b, which, page, api.ErrArg)
				}
			}
			for which := range 8 {
				for _, page := range wrongPages(36) {
					wantSetRoot(t, s.b, which, page, api.ErrArg)
				}
			}
		})
		if space0 {
			wantRoot(t, s.b, 7, 35)
		}
	}
}

// The errors' order, and those of the book.

func TestNoTransaction(t *testing.T) {
	for _, down := range []bool{false, true} {
		s := shelved(t, 36)
		if down {
			crash(s.d)
		}
		want(t, "Format", space.Format(s.b), api.ErrState)
		for _, page := range []int{-1, 0, 2, 36} {
			wantNoTake(t, s.b, api.ErrState)
			wantGive(t, s.b, page, api.ErrState)
			for _, which := range []int{-1, 0, 7, 8} {
				wantSetRoot(t, s.b, which, page, api.ErrState)
			}
		}
	}
	s := formatted(t, 36)
	wantTake(t, s.b, 2)
	wantSetRoot(t, s.b, 1, 2, api.OK)
	want(t, "Commit", s.b.Commit(), api.OK)
	s.wantNothing(t, func() {
		want(t, "Format", space.Format(s.b), api.ErrState)
		wantNoTake(t, s.b, api.ErrState)
		wantGive(t, s.b, 2, api.ErrState)
		wantSetRoot(t, s.b, 1, 3, api.ErrState)
		wantFree(t, s.b, 33)
		wantTaken(t, s.b, 2, true)
		wantTaken(t, s.b, 3, false)
		wantRoot(t, s.b, 1, 2)
	})
}

func TestDeviceThatIsDown(t *testing.T) {
	s := begun(t, 36) // no page is in a frame
	crash(s.d)
	want(t, "Format", space.Format(s.b), api.ErrDown)
	wantAll(t, s.b, 2, 0, api.ErrDown, api.ErrDown)
	wantSetRoot(t, s.b, 8, 2, api.ErrArg)
	wantSetRoot(t, s.b, 0, 36, api.ErrArg)
	if r, e := space.Root(s.b, 8); r != 0 || e != api.ErrArg {
		t.Errorf("Root(8) = %d, %d", r, e)
	}
	s.d.Wake(nil)
	want(t, "Format", space.Format(s.b), api.OK)
	wantNew(t, s.b)
}

// Where all frames are held the map can't be read, though the roots can be; and where the map can be, and the page that is to be taken can't, it is free still.
func TestFramesThatAreHeld(t *testing.T) {
	s := formatted(t, 36)
	wantTake(t, s.b, 2)
	want(t, "Hold", s.p.Hold(0), api.OK)
	for page := 20; page < 27; page++ {
		want(t, "Hold", s.p.Hold(page), api.OK)
	}
	wantSetRoot(t, s.b, 5, 6, api.OK)
	wantRoot(t, s.b, 5, 6)
	want(t, "Format", space.Format(s.b), api.ErrBusy)
	wantRoot(t, s.b, 5, 6)
	wantNoTake(t, s.b, api.ErrBusy)
	wantGive(t, s.b, 2, api.ErrBusy)
	if n, e := space.Free(s.b); n != 0 || e != api.ErrBusy {
		t.Errorf("Free = %d, %d", n, e)
	}
	if is, e := space.Taken(s.b, 2); is || e != api.ErrBusy {
		t.Errorf("Taken = %v, %d", is, e)
	}
	s.p.Leave(20)
	want(t, "Hold", s.p.Hold(1), api.OK)
	s.wantHeld(t)
	s.p.Leave(26)
	wantTake(t, s.b, 3)
}

func (s shelf) wantHeld(t *testing.T) {
	t.Helper()
	for range 2 {
		wantNoTake(t, s.b, api.ErrBusy)
		wantFree(t, s.b, 33)
		wantTaken(t, s.b, 2, true)
		wantTaken(t, s.b, 3, false)
	}
}

// A transaction that can only be undone takes no more changes.
func TestTransactionThatIsSealed(t *testing.T) {
	s := formatted(t, 36)
	wantTake(t, s.b, 2)
	s.d.Arm(1)
	want(t, "Commit", s.b.Commit(), api.ErrDown)
	s.d.Wake(nil)
	want(t, "Format", space.Format(s.b), api.ErrState)
	wantNoTake(t, s.b, api.ErrState)
	wantGive(t, s.b, 2, api.ErrState)
	wantSetRoot(t, s.b, 0, 0, api.ErrState)
	wantFree(t, s.b, 33)
	want(t, "Abort", s.b.Abort(), api.OK)
	wantAll(t, s.b, 2, 0, api.ErrState, api.ErrShape)
}

// With whatever room the log has left, a call is done, or it is told that the log is full and the space is as it was; Abort puts back what was put.
func TestLogThatIsFull(t *testing.T) {
	calls := map[string]func(*change.Book) api.Errno{
		"Take": func(b *change.Book) api.Errno {
			page, e := space.Take(b)
			if (e == api.OK) != (page == 5) || e != api.OK && page != 0 {
				t.Fatalf("Take = %d, %d", page, e)
			}
			return e
		},
		"Give":    func(b *change.Book) api.Errno { return space.Give(b, 3) },
		"SetRoot": func(b *change.Book) api.Errno { return space.SetRoot(b, 4, 35) },
	}
	for name, call := range calls {
		done, full := 0, 0
		for room := 0; room < 3000; room += 23 {
			s := taken(t)
			s.leave(t, room)
			was := s.sight(t)
			e := call(s.b)
			switch is := s.sight(t); {
			case e == api.OK:
				done++
			case e == api.ErrFull && reflect.DeepEqual(is, was):
				full++
			default:
				t.Fatalf("%s with room for %d: %d, %v", name, room, e, is)
			}
			if e == api.OK == reflect.DeepEqual(s.sight(t), was) {
				t.Fatalf("%s with room for %d: %d", name, room, e)
			}
		}
		if done == 0 || full == 0 {
			t.Errorf("%s was done %d times, and found the log full %d times", name, done, full)
		}
	}
}

// taken is a space whose pages 2 to 4 are taken, in a transaction of its own; all others have bytes.
func taken(t *testing.T) shelf {
	t.Helper()
	s := begun(t, 36)
	for page := 2; page < 36; page++ {
		fill(t, s.b, page, 3)
	}
	want(t, "Format", space.Format(s.b), api.OK)
	for page := 2; page < 5; page++ {
		anew(t, s.b)
		wantTake(t, s.b, page)
	}
	anew(t, s.b)
	return s
}

// A transaction goes on till the log is full; undone, all is as it was.
func TestAbortOfAFullLog(t *testing.T) {
	for _, again := range []bool{false, true} {
		s := taken(t)
		was, pages := s.sight(t), pagesOf(t, s.b)
		full := false
		for i := 0; !full; i++ {
			page, e := space.Take(s.b)
			if e == api.OK {
				e = s.b.Put(page, of(9))
			}
			if e == api.OK {
				e = space.SetRoot(s.b, i%8, page)
			}
			if e == api.OK {
				e = space.Give(s.b, page)
			}
			if e == api.OK && again {
				e = space.Format(s.b)
			}
			if full = e == api.ErrFull; !full {
				want(t, "step", e, api.OK)
			}
		}
		want(t, "Abort", s.b.Abort(), api.OK)
		if !reflect.DeepEqual(s.sight(t), was) || !reflect.DeepEqual(pagesOf(t, s.b), pages) {
			t.Error("behind Abort all is not as it was")
		}
	}
}

// Format may find the log full, too.
func TestFormatOfAFullLog(t *testing.T) {
	done, full := 0, 0
	for room := 0; room < 3000; room += 31 {
		s := shelved(t, 36)
		want(t, "Begin", s.b.Begin(), api.OK)
		want(t, "Put", s.b.Put(1, of(7)), api.OK)
		want(t, "Commit", s.b.Commit(), api.OK)
		want(t, "Begin", s.b.Begin(), api.OK)
		s.leave(t, room)
		switch e := space.Format(s.b); e {
		case api.OK:
			done++
			wantNew(t, s.b)
		case api.ErrFull:
			full++
			wantAll(t, s.b, 2, 0, api.ErrShape, api.ErrShape)
		default:
			t.Fatalf("room for %d: %d", room, e)
		}
	}
	if done == 0 || full == 0 {
		t.Errorf("it was done %d times, and found the log full %d times", done, full)
	}
}

// R3, R5.

// Of the pages of a book, those are changed that a call says, and no others.
func TestOtherPagesStay(t *testing.T) {
	s := taken(t)
	for _, c := range []struct {
		do   func() api.Errno
		may  []int
		must bool
	}{
		{func() api.Errno { _, e := space.Take(s.b); return e }, []int{1, 5}, true},
		{func() api.Errno { return space.Give(s.b, 3) }, []int{1}, true},
		{func() api.Errno { return space.SetRoot(s.b, 0, 4) }, []int{0}, true},
		{func() api.Errno { return space.SetRoot(s.b, 0, 4) }, nil, false},
		{func() api.Errno { _, e := space.Free(s.b); return e }, nil, false},
		{func() api.Errno { _, e := space.Taken(s.b, 3); return e }, nil, false},
		{func() api.Errno { _, e := space.Root(s.b, 0); return e }, nil, false},
		{func() api.Errno { return space.Format(s.b) }, []int{0, 1}, true},
		{func() api.Errno { return space.Format(s.b) }, nil, false},
	} {
		was, changes := pagesOf(t, s.b), s.b.Changes()
		want(t, "call", c.do(), api.OK)
		for page, data := range pagesOf(t, s.b) {
			if !bytes.Equal(data, was[page]) && !slices.Contains(c.may, page) {
				t.Errorf("page %d was changed", page)
			}
		}
		if (s.b.Changes() > changes) != c.must {
			t.Errorf("%d changes have become %d", changes, s.b.Changes())
		}
	}
}

// Books have nothing in common: what is taken of one is not of another, be they of one size or not.
func TestBooksShareNothing(t *testing.T) {
	a, b, c := formatted(t, 36).b, formatted(t, 36).b, formatted(t, 5000).b
	wantTake(t, a, 2)
	wantTake(t, a, 3)
	wantTake(t, c, 3)
	wantSetRoot(t, a, 1, 35, api.OK)
	wantTake(t, b, 2)
	wantRoot(t, b, 1, 0)
	wantRoot(t, c, 1, 0)
	wantSetRoot(t, c, 1, 4999, api.OK)
	wantGive(t, b, 2, api.OK)
	wantTaken(t, a, 2, true)
	wantTake(t, a, 4)
	wantTake(t, c, 4)
	wantFree(t, a, 31)
	wantFree(t, b, 34)
	wantFree(t, c, 4995)
	wantRoot(t, a, 1, 35)
	wantRoot(t, c, 1, 4999)
	want(t, "Abort", a.Abort(), api.OK)
	wantFree(t, b, 34)
	wantAsking(t, a, 2, 1, api.ErrShape)
}

func TestNoBook(t *testing.T) {
	for _, b := range []*change.Book{nil, {}, change.New(nil, nil, nil)} {
		want(t, "Format", space.Format(b), api.ErrNil)
		for _, page := range append(wrongPages(36), 0, 2) {
			for _, which := range append(wrongRoots, 0, 7) {
				wantAll(t, b, page, which, api.ErrNil, api.ErrNil)
			}
		}
	}
}

// A space is what its pages say, and so it is found again by whoever opens the book.
func TestSpaceBehindACrash(t *testing.T) {
	for _, pages := range []int{10, 36, 4097, 32766} {
		d := laid(t, pages)
		b := openedBook(t, d)
		own := ownOf(pages)
		want(t, "Begin", b.Begin(), api.OK)
		want(t, "Format", space.Format(b), api.OK)
		wantTake(t, b, own)
		wantTake(t, b, own+1)
		wantSetRoot(t, b, 6, own+1, api.OK)
		want(t, "Commit", b.Commit(), api.OK)
		want(t, "Begin", b.Begin(), api.OK)
		wantGive(t, b, own, api.OK)
		wantSetRoot(t, b, 6, 0, api.OK)
		d.Wake(nil)
		b = openedBook(t, d)
		wantFree(t, b, pages-own-2)
		wantTaken(t, b, own, true)
		wantRoot(t, b, 6, own+1)
		want(t, "Begin", b.Begin(), api.OK)
		wantTake(t, b, own+2)
	}
}

func openedBook(t *testing.T, d *device.Device) *change.Book {
	t.Helper()
	b, _, e := restore.Open(d, 8)
	want(t, "Open", e, api.OK)
	return b
}
