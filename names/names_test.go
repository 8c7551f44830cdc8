package names_test

import (
	"bytes"
	"fmt"
	"math"
	"math/rand"
	"reflect"
	"slices"
	"strings"
	"testing"

	"parchment/api"
	"parchment/btree"
	"parchment/change"
	"parchment/device"
	"parchment/log"
	"parchment/names"
	"parchment/pool"
	"parchment/restore"
	"parchment/space"
)

// shelf is a book and all that it is of.
type shelf struct {
	d *device.Device
	l *log.Log
	p *pool.Pool
	b *change.Book
}

// laid is a device whose book has so many pages.
func laid(t *testing.T, pages int) *device.Device {
	t.Helper()
	d := device.New(2 * (pages + 2))
	want(t, "change.Format", change.Format(d), api.OK)
	return d
}

// bare is a book of so many pages of noughts, with 8 frames, in a transaction.
func bare(t *testing.T, pages int) shelf {
	t.Helper()
	d := laid(t, pages)
	first, pages, at, count := change.Place(d.Blocks())
	l, e := log.Open(d, at, count, 1, 2)
	want(t, "log.Open", e, api.OK)
	p := pool.New(d, l, first, pages, 8)
	b := change.New(d, l, p)
	if b == nil {
		t.Fatal("no book")
	}
	want(t, "Begin", b.Begin(), api.OK)
	return shelf{d, l, p, b}
}

// shelved is such a book that has a space.
func shelved(t *testing.T, pages int) shelf {
	t.Helper()
	s := bare(t, pages)
	want(t, "space.Format", space.Format(s.b), api.OK)
	anew(t, s.b)
	return s
}

func book(t *testing.T, pages int) *change.Book {
	t.Helper()
	return shelved(t, pages).b
}

func openedBook(t *testing.T, d *device.Device) *change.Book {
	t.Helper()
	b, _, e := restore.Open(d, 8)
	want(t, "Open", e, api.OK)
	return b
}

// anew ends a book's transaction, and begins another one, for which the log has room again.
func anew(t *testing.T, b *change.Book) {
	t.Helper()
	want(t, "Commit", b.Commit(), api.OK)
	want(t, "Begin", b.Begin(), api.OK)
}

// undone undoes what is done to a book.
func undone(t *testing.T, b *change.Book, do func()) {
	t.Helper()
	do()
	want(t, "Abort", b.Abort(), api.OK)
	want(t, "Begin", b.Begin(), api.OK)
}

// of is a page of one byte.
func of(x byte) []byte {
	return bytes.Repeat([]byte{x}, api.BlockSize)
}

func crash(d *device.Device) {
	d.Arm(1)
	d.Sync()
}

func want(t *testing.T, call string, got, want api.Errno) {
	t.Helper()
	if got != want {
		t.Fatalf("%s = %d; want %d", call, got, want)
	}
}

// ownOf is how many pages of so many are a space's own, in the words of chapter 14.
func ownOf(pages int) int {
	m := 0
	for 4096*m < pages {
		m++
	}
	return 1 + m
}

func freeOf(t *testing.T, b *change.Book) int {
	t.Helper()
	n, e := space.Free(b)
	want(t, "Free", e, api.OK)
	return n
}

func taken(t *testing.T, b *change.Book) int {
	t.Helper()
	page, e := space.Take(b)
	want(t, "Take", e, api.OK)
	return page
}

func pageOf(t *testing.T, b *change.Book, page int) []byte {
	t.Helper()
	data, e := b.Page(page)
	want(t, "Page", e, api.OK)
	return data
}

// pagesOf are all pages of a book.
func pagesOf(t *testing.T, b *change.Book) [][]byte {
	t.Helper()
	var out [][]byte
	for page := range b.Pages() {
		out = append(out, pageOf(t, b, page))
	}
	return out
}

// wantNothing holds the pages and the log ahead of some calls against what they are behind them.
func (s shelf) wantNothing(t *testing.T, do func()) {
	t.Helper()
	pages, end, changes, in := pagesOf(t, s.b), s.l.End(), s.b.Changes(), s.b.In()
	do()
	if s.l.End() != end || s.b.Changes() != changes || s.b.In() != in {
		t.Fatal("the transaction has gone on")
	}
	if !reflect.DeepEqual(pagesOf(t, s.b), pages) {
		t.Fatal("pages were changed")
	}
}

// leave lets the log have just so many bytes of room, or up to 35 more, by records of somebody else's.
func (s shelf) leave(t *testing.T, room int) {
	t.Helper()
	for s.l.Room() > room+35 {
		r := api.Record{Kind: api.RecCommit, Tx: 1 << 60}
		if over := s.l.Room() - room; over > 700 {
			r = api.Record{Kind: api.RecUndo, Tx: 1 << 60, Span: api.Span{New: of(0)}}
		} else if over >= 52 && over <= 563 {
			r = api.Record{Kind: api.RecUndo, Tx: 1 << 60, Span: api.Span{New: make([]byte, over-51)}}
		}
		_, e := s.l.Append(r)
		want(t, "Append", e, api.OK)
	}
}

// wrongPages are numbers that no page of so many has.
func wrongPages(pages int) []int {
	return []int{-1, -2, -4096, pages, pages + 1, pages + 4096, 65535, 65536, 65538, 1 << 32, 1<<32 + 2, 1<<40 + 3, math.MinInt, math.MinInt + 2, math.MaxInt}
}

// named is a book of so many pages that has a space and these names, in a transaction.
func named(t *testing.T, pages int, all ...string) shelf {
	t.Helper()
	s := shelved(t, pages)
	want(t, "Format", names.Format(s.b), api.OK)
	for at, name := range all {
		wantNumber(t, s.b, name, at+1)
		roomy(t, s.b)
	}
	anew(t, s.b)
	return s
}

func wantNumber(t *testing.T, b *change.Book, name string, n int) {
	t.Helper()
	if got, e := names.Number(b, name); got != n || e != api.OK {
		t.Fatalf("Number(%q) = %d, %d; want %d", name, got, e, n)
	}
}

func wantNoNumber(t *testing.T, b *change.Book, name string, want api.Errno) {
	t.Helper()
	if n, e := names.Number(b, name); n != 0 || e != want {
		t.Fatalf("Number(%q) = %d, %d; want %d", name, n, e, want)
	}
}

func wantFind(t *testing.T, b *change.Book, name string, n int) {
	t.Helper()
	if got, is, e := names.Find(b, name); got != n || !is || e != api.OK {
		t.Fatalf("Find(%q) = %d, %v, %d; want %d", name, got, is, e, n)
	}
}

// wantNoFind holds what is told of a name without a number, or of what is none, or of a book that is none.
func wantNoFind(t *testing.T, b *change.Book, name string, want api.Errno) {
	t.Helper()
	if n, is, e := names.Find(b, name); n != 0 || is || e != want {
		t.Fatalf("Find(%q) = %d, %v, %d; want %d", name, n, is, e, want)
	}
}

func wantName(t *testing.T, b *change.Book, n int, name string) {
	t.Helper()
	if got, e := names.Name(b, n); got != name || e != api.OK {
		t.Fatalf("Name(%d) = %q, %d; want %q", n, got, e, name)
	}
}

func wantNoName(t *testing.T, b *change.Book, n int, want api.Errno) {
	t.Helper()
	if name, e := names.Name(b, n); name != "" || e != want {
		t.Fatalf("Name(%d) = %q, %d; want %d", n, name, e, want)
	}
}

// wantNames holds a book's names against all that it must have, as their numbers stand, and what follows (P18.4).
func wantNames(t *testing.T, b *change.Book, all ...string) {
	t.Helper()
	for at, name := range all {
		wantFind(t, b, name, at+1)
		wantName(t, b, at+1, name)
	}
	for _, n := range []int{len(all) + 1, len(all) + 2, 0, -1, math.MinInt, math.MaxInt} {
		wantNoName(t, b, n, api.ErrNone)
	}
	seen := map[int]bool{}
	for _, root := range rootsOf(t, b) {
		cells, pages, e := btree.Check(b, root)
		if cells != len(all) || e != api.OK {
			t.Fatalf("the tree %d has %d cells, %d; there are %d names", root, cells, e, len(all))
		}
		for _, page := range pages {
			if is, e := space.Taken(b, page); !is || e != api.OK || seen[page] {
				t.Fatalf("page %d is not taken, or twice", page)
			}
			seen[page] = true
		}
	}
}

// rootsOf are what a book's names are told by.
func rootsOf(t *testing.T, b *change.Book) [2]int {
	t.Helper()
	var out [2]int
	for i := range out {
		root, e := space.Root(b, 1+i)
		want(t, "Root", e, api.OK)
		out[i] = root
	}
	return out
}

// wantNothingKnown holds what all calls are told of a book that has no names, whatever is asked.
func wantNothingKnown(t *testing.T, b *change.Book, want api.Errno) {
	t.Helper()
	for _, name := range []string{"a", "b", "c", "\x00", strings.Repeat("x", 100)} {
		wantNoNumber(t, b, name, want)
		wantNoFind(t, b, name, want)
	}
	for _, n := range []int{1, 2, 3, 0, -1, math.MinInt, math.MaxInt} {
		wantNoName(t, b, n, want)
	}
}

// roomy ends a transaction that has grown, and begins another one.
func roomy(t *testing.T, b *change.Book) {
	t.Helper()
	if b.Changes() > 40 {
		anew(t, b)
	}
}

// wrongNames are none.
func wrongNames() []string {
	out := []string{""}
	for _, n := range []int{101, 102, 150, 160, 161, 200, 201, 1000, 70000} {
		out = append(out, strings.Repeat("x", n), strings.Repeat("\x00", n))
	}
	return out
}

// strange are names of any bytes: alike ones, such as begin others, short ones and long ones.
func strange() []string {
	out := []string{"a", "A", "aa", "ab", "a ", " a", "a\x00", "\x00a", "b", "\xff", "\xff\xff", "\xfe\xff", "\x00", "\x00\x00", "\x00\xff", "\xc3\xa4", "\xc3", "\x80", "xml", "x:y", "-", "1", "01", "\x80\x00\x00\x00\x00\x00\x00\x01", "<", "\n"}
	for n := 3; n <= api.MaxName; n++ {
		out = append(out, strings.Repeat("x", n), strings.Repeat("\xff", n), strings.Repeat("\x00", n), strings.Repeat("x", n-1)+"y")
	}
	return out
}

// plain are so many names.
func plain(many int) []string {
	var out []string
	for i := range many {
		out = append(out, fmt.Sprint("name", i))
	}
	return out
}

// The chapter's example.
func TestExample(t *testing.T) {
	b := shelved(t, 36).b
	want(t, "Format", names.Format(b), api.OK)
	wantNumber(t, b, "a", 1)
	wantNumber(t, b, "b", 2)
	wantNumber(t, b, "a", 1)
	wantName(t, b, 2, "b")
	wantNoName(t, b, 3, api.ErrNone)
	wantNoFind(t, b, "c", api.OK)
	wantNoNumber(t, b, "", api.ErrArg)
	wantNames(t, b, "a", "b")
}

// P18.1.

func TestFormat(t *testing.T) {
	for _, pages := range []int{10, 36, 300, 4097} {
		b := shelved(t, pages).b
		for which := range 8 {
			want(t, "SetRoot", space.SetRoot(b, which, pages-1-which), api.OK)
		}
		free := freeOf(t, b)
		want(t, "Format", names.Format(b), api.OK)
		wantNames(t, b)
		if n := freeOf(t, b); n != free-2 {
			t.Errorf("%d of %d pages are free, two less than which were", n, free)
		}
		if at := rootsOf(t, b); at[0] == at[1] {
			t.Errorf("both trees are %d", at[0])
		}
		wantNumber(t, b, "a", 1)
		wantNumber(t, b, "b", 2)
		for which := range 8 {
			root, e := space.Root(b, which)
			if mine := which == 1 || which == 2; e != api.OK || !mine && root != pages-1-which {
				t.Errorf("the root %d has become %d, %d", which, root, e)
			}
		}
	}
}

// A book that has names has none behind a Format, and its numbers go from 1 on again.
func TestFormatAgain(t *testing.T) {
	b := named(t, 300, "a", "b", "c").b
	was := rootsOf(t, b)
	undone(t, b, func() {
		want(t, "Format", names.Format(b), api.OK)
		for _, root := range rootsOf(t, b) {
			if slices.Contains(was[:], root) {
				t.Errorf("the tree %d is no new one", root)
			}
		}
		wantNames(t, b)
		for _, name := range []string{"a", "b", "c"} {
			wantNoFind(t, b, name, api.OK)
		}
		wantNumber(t, b, "c", 1)
		wantNumber(t, b, "d", 2)
		wantNames(t, b, "c", "d")
	})
	wantNames(t, b, "a", "b", "c")
}

func TestFormatUndone(t *testing.T) {
	b := shelved(t, 36).b
	undone(t, b, func() {
		want(t, "Format", names.Format(b), api.OK)
		wantNumber(t, b, "a", 1)
	})
	wantNothingKnown(t, b, api.ErrShape)
	if at := rootsOf(t, b); at != [2]int{} {
		t.Errorf("the roots are %v", at)
	}
}

// P18.2, P18.3.

func TestStrangeNames(t *testing.T) {
	b := named(t, 1200, strange()...).b
	wantNames(t, b, strange()...)
	for at, name := range strange() {
		wantNumber(t, b, name, at+1)
	}
}

func TestNumbersInAnyOrder(t *testing.T) {
	s := named(t, 1200)
	r := rand.New(rand.NewSource(18))
	var all []string
	for range 4000 {
		name := fmt.Sprint("name", r.Intn(700))
		n := slices.Index(all, name) + 1
		if n == 0 {
			wantNoFind(t, s.b, name, api.OK)
			wantNoName(t, s.b, len(all)+1, api.ErrNone)
			all = append(all, name)
			n = len(all)
		}
		wantNumber(t, s.b, name, n)
		wantFind(t, s.b, name, n)
		wantName(t, s.b, n, name)
		roomy(t, s.b)
	}
	wantNames(t, s.b, all...)
}

// As many long names as a book of 3000 pages has room for at the least, in order of their bytes, backwards, and mixed.
func TestManyLongNames(t *testing.T) {
	long := func(i int) string { return fmt.Sprintf("%0100d", i) }
	for kind, of := range map[string]func(i int) int{
		"onward":   func(i int) int { return i },
		"backward": func(i int) int { return 2000 - i },
		"mixed":    func(i int) int { return i * 37 % 2003 },
	} {
		t.Run(kind, func(t *testing.T) {
			s := named(t, 3000)
			var all []string
			for i := range 2000 {
				all = append(all, long(of(i)))
				wantNumber(t, s.b, all[i], i+1)
				roomy(t, s.b)
			}
			wantNames(t, s.b, all...)
		})
	}
}

// A name that has a number is asked for as often as one likes, and nothing changes.
func TestNumberAgain(t *testing.T) {
	s := named(t, 300, plain(100)...)
	s.wantNothing(t, func() {
		for at, name := range plain(100) {
			wantNumber(t, s.b, name, at+1)
		}
	})
	wantNames(t, s.b, plain(100)...)
}

// A name that was given its number by a transaction that is undone has none: and the number is another one's.
func TestNumberUndone(t *testing.T) {
	b := named(t, 300, "a", "b").b
	undone(t, b, func() {
		wantNumber(t, b, "c", 3)
		wantNumber(t, b, "d", 4)
		wantNames(t, b, "a", "b", "c", "d")
	})
	wantNames(t, b, "a", "b")
	wantNoFind(t, b, "c", api.OK)
	wantNumber(t, b, "d", 3)
	wantNumber(t, b, "c", 4)
	wantNames(t, b, "a", "b", "d", "c")
}

// What is no name is refused ahead of all that stands on the book, and changes nothing.
func TestWrongNames(t *testing.T) {
	for _, s := range []shelf{named(t, 300, "a", "b", strings.Repeat("x", 100)), shelved(t, 36), bare(t, 36)} {
		s.wantNothing(t, func() {
			for _, name := range wrongNames() {
				wantNoNumber(t, s.b, name, api.ErrArg)
				wantNoFind(t, s.b, name, api.ErrArg)
			}
		})
	}
}

func TestNumbersThatNoNameHas(t *testing.T) {
	s := named(t, 300, "a", "b", "c")
	s.wantNothing(t, func() {
		for _, n := range append(wrongPages(300), 0, 4, 5, 256, 257, 258, 1<<8+1, 1<<16+1, 1<<32+1, 1<<56+1, math.MinInt+1, math.MinInt+3) {
			wantNoName(t, s.b, n, api.ErrNone)
		}
		for _, name := range []string{"d", "A", "aa", "ab", "a\x00", "\x00a", " a", "", strings.Repeat("a", 100)} {
			if name != "" {
				wantNoFind(t, s.b, name, api.OK)
			}
		}
	})
}

// ErrShape.

func TestNoSpace(t *testing.T) {
	s := bare(t, 36)
	s.wantNothing(t, func() {
		want(t, "Format", names.Format(s.b), api.ErrShape)
		wantNothingKnown(t, s.b, api.ErrShape)
	})
	// Names are of the space, and none without it.
	s = named(t, 36, "a", "b")
	want(t, "Put", s.b.Put(0, of(0)), api.OK)
	s.wantNothing(t, func() { wantNothingKnown(t, s.b, api.ErrShape) })
}

func TestNotFormatted(t *testing.T) {
	for _, pages := range []int{10, 36, 4097} {
		s := shelved(t, pages)
		s.wantNothing(t, func() { wantNothingKnown(t, s.b, api.ErrShape) })
		want(t, "Commit", s.b.Commit(), api.OK)
		wantNoFind(t, s.b, "a", api.ErrShape)
		wantNoName(t, s.b, 1, api.ErrShape)
	}
}

// Where either of the two roots is none, there are no names.
func TestRootsThatAreNone(t *testing.T) {
	s := named(t, 300, "a", "b", "c")
	page := taken(t, s.b)
	want(t, "Put", s.b.Put(page, of(255)), api.OK)
	anew(t, s.b)
	for which := 1; which <= 2; which++ {
		for _, root := range []int{0, 1, page, page + 1, 299} {
			undone(t, s.b, func() {
				want(t, "SetRoot", space.SetRoot(s.b, which, root), api.OK)
				wantNothingKnown(t, s.b, api.ErrShape)
				wantNoNumber(t, s.b, "", api.ErrArg)
				wantNoFind(t, s.b, "", api.ErrArg)
			})
		}
		undone(t, s.b, func() {
			want(t, "Drop", btree.Drop(s.b, rootsOf(t, s.b)[which-1]), api.OK)
			wantNothingKnown(t, s.b, api.ErrShape)
		})
	}
	wantNames(t, s.b, "a", "b", "c")
}

// The errors' order, and those of the book and its space.

func TestNoTransaction(t *testing.T) {
	s := named(t, 300, "a", "b")
	want(t, "Commit", s.b.Commit(), api.OK)
	s.wantNothing(t, func() {
		want(t, "Format", names.Format(s.b), api.ErrState)
		for _, name := range append(wrongNames(), "a", "b", "c") {
			wantNoNumber(t, s.b, name, api.ErrState)
		}
		wantNames(t, s.b, "a", "b")
		wantNoFind(t, s.b, "c", api.OK)
		wantNoFind(t, s.b, "", api.ErrArg)
	})
	crash(s.d)
	want(t, "Format", names.Format(s.b), api.ErrState)
	wantNoNumber(t, s.b, "a", api.ErrState)
	for _, b := range []*change.Book{shelved(t, 36).b, bare(t, 36).b} {
		want(t, "Commit", b.Commit(), api.OK)
		want(t, "Format", names.Format(b), api.ErrState)
		wantNoNumber(t, b, "a", api.ErrState)
	}
}

func TestNoBook(t *testing.T) {
	for _, b := range []*change.Book{nil, {}, change.New(nil, nil, nil)} {
		want(t, "Format", names.Format(b), api.ErrNil)
		wantNothingKnown(t, b, api.ErrNil)
		for _, name := range wrongNames() {
			wantNoNumber(t, b, name, api.ErrNil)
			wantNoFind(t, b, name, api.ErrNil)
		}
	}
}

// emptied lets none of a book's pages that have something on them be in a frame.
func (s shelf) emptied(t *testing.T) {
	t.Helper()
	want(t, "Commit", s.b.Commit(), api.OK)
	want(t, "Point", s.b.Point(), api.OK)
	for page := 200; page < 208; page++ {
		s.b.Page(page)
		s.b.Page(page)
	}
	want(t, "Begin", s.b.Begin(), api.OK)
}

func TestDeviceThatIsDown(t *testing.T) {
	s := named(t, 300, plain(100)...)
	s.emptied(t)
	crash(s.d)
	want(t, "Format", names.Format(s.b), api.ErrDown)
	wantNothingKnown(t, s.b, api.ErrDown)
	wantNoNumber(t, s.b, "", api.ErrArg)
	wantNoFind(t, s.b, "", api.ErrArg)
	s.d.Wake(nil)
	wantNames(t, s.b, plain(100)...)
}

// The device crashes while a call goes from page to page: whichever of them are in frames, it is told, or the call is done all the same.
func TestDeviceThatGoesDown(t *testing.T) {
	all := plain(100)
	for _, name := range []string{"name50", "other"} {
		down, done := 0, 0
		s := named(t, 300, all...)
		mine := []int{0, 1}
		for _, root := range rootsOf(t, s.b) {
			_, pages, _ := btree.Check(s.b, root)
			mine = append(mine, pages...)
		}
		for from := range mine {
			s.emptied(t)
			for _, page := range mine[from:min(from+8, len(mine))] {
				s.b.Page(page)
			}
			crash(s.d)
			n, is, e := names.Find(s.b, name)
			switch {
			case e == api.ErrDown && n == 0 && !is:
				down++
			case e == api.OK && is == (name == "name50"):
				done++
			default:
				t.Fatalf("Find(%q) = %d, %v, %d", name, n, is, e)
			}
			s.d.Wake(nil)
			wantNames(t, s.b, all...)
		}
		if down == 0 {
			t.Errorf("Find(%q) was told of the device %d times, and was done %d times", name, down, done)
		}
	}
}

func TestFramesThatAreHeld(t *testing.T) {
	s := named(t, 300, plain(100)...)
	for page := 200; page < 208; page++ {
		want(t, "Hold", s.p.Hold(page), api.OK)
	}
	want(t, "Format", names.Format(s.b), api.ErrBusy)
	wantNothingKnown(t, s.b, api.ErrBusy)
	for page := 200; page < 208; page++ {
		s.p.Leave(page)
	}
	wantNames(t, s.b, plain(100)...)
}

// Names need one frame alone at a time.
func TestOneFrame(t *testing.T) {
	s := shelved(t, 300)
	for page := 200; page < 207; page++ {
		want(t, "Hold", s.p.Hold(page), api.OK)
	}
	want(t, "Format", names.Format(s.b), api.OK)
	for at, name := range plain(100) {
		wantNumber(t, s.b, name, at+1)
		roomy(t, s.b)
	}
	wantNames(t, s.b, plain(100)...)
}

// A transaction that can only be ended takes no more changes.
func TestTransactionThatIsSealed(t *testing.T) {
	s := named(t, 36, "a")
	wantNumber(t, s.b, "b", 2)
	s.d.Arm(1)
	want(t, "Commit", s.b.Commit(), api.ErrDown)
	s.d.Wake(nil)
	want(t, "Format", names.Format(s.b), api.ErrState)
	wantNoNumber(t, s.b, "c", api.ErrState)
	wantNames(t, s.b, "a", "b")
	want(t, "Abort", s.b.Abort(), api.OK)
	wantNames(t, s.b, "a")
}

// Where no page is free a call is told so; undone, all is as it was, and what there is room for is done.
func TestSpaceThatIsFull(t *testing.T) {
	for spare := range 3 {
		s := shelved(t, 300)
		for freeOf(t, s.b) > spare {
			taken(t, s.b)
		}
		anew(t, s.b)
		was := pagesOf(t, s.b)
		if spare == 2 {
			undone(t, s.b, func() { want(t, "Format", names.Format(s.b), api.OK) })
		} else {
			undone(t, s.b, func() { want(t, "Format", names.Format(s.b), api.ErrFull) })
		}
		if !reflect.DeepEqual(pagesOf(t, s.b), was) {
			t.Fatal("behind Abort all is not as it was")
		}
	}
	s := named(t, 300)
	for freeOf(t, s.b) > 5 {
		taken(t, s.b)
	}
	anew(t, s.b)
	var all []string
	for i := range 300 {
		was := pagesOf(t, s.b)
		name := fmt.Sprintf("%0*d", 1+i*37%100, i)
		n, e := names.Number(s.b, name)
		if e == api.ErrFull && n == 0 {
			want(t, "Abort", s.b.Abort(), api.OK)
			want(t, "Begin", s.b.Begin(), api.OK)
			if !reflect.DeepEqual(pagesOf(t, s.b), was) {
				t.Fatal("behind Abort all is not as it was")
			}
			wantNoFind(t, s.b, name, api.OK)
			continue
		}
		all = append(all, name)
		if n != len(all) || e != api.OK {
			t.Fatalf("Number(%q) = %d, %d; want %d", name, n, e, len(all))
		}
		anew(t, s.b)
	}
	if len(all) < 10 || len(all) > 250 {
		t.Errorf("%d names have found room", len(all))
	}
	wantNames(t, s.b, all...)
	for at, name := range all {
		wantNumber(t, s.b, name, at+1)
	}
}

// With whatever room the log has left, a call is done, or it is told that the log is full; undone, all is as it was.
func TestLogThatIsFull(t *testing.T) {
	calls := map[string]func(b *change.Book) api.Errno{
		"Number": func(b *change.Book) api.Errno {
			n, e := names.Number(b, "other")
			if n != 41 && e == api.OK || n != 0 && e != api.OK {
				t.Fatalf("Number = %d, %d", n, e)
			}
			return e
		},
		"Format": names.Format,
	}
	for name, call := range calls {
		done, full := 0, 0
		for room := 100; room < 6000; room += 35 {
			s := named(t, 150, plain(40)...)
			was := pagesOf(t, s.b)
			s.leave(t, room)
			switch e := call(s.b); e {
			case api.OK:
				done++
			case api.ErrFull:
				full++
			default:
				t.Fatalf("%s with room for %d: %d", name, room, e)
			}
			want(t, "Abort", s.b.Abort(), api.OK)
			if !reflect.DeepEqual(pagesOf(t, s.b), was) {
				t.Fatalf("%s with room for %d: behind Abort all is not as it was", name, room)
			}
			wantNames(t, s.b, plain(40)...)
		}
		if done == 0 || full == 0 {
			t.Errorf("%s was done %d times, and found the log full %d times", name, done, full)
		}
	}
}

// R3, R4.

// What was told stays as it is, whatever becomes of the pages that it was read of.
func TestNamesAreHandedOut(t *testing.T) {
	s := named(t, 300, plain(100)...)
	var told []string
	for n := 1; n <= 100; n++ {
		name, e := names.Name(s.b, n)
		want(t, "Name", e, api.OK)
		told = append(told, name)
	}
	anew(t, s.b)
	for page := 2; page < 300; page++ {
		want(t, "Put", s.b.Put(page, of(255)), api.OK)
		anew(t, s.b)
	}
	if !slices.Equal(told, plain(100)) {
		t.Error("names that were told have changed")
	}
}

// What is handed in is not kept: a text that stands within a longer one is that text alone.
func TestNamesAreHandedIn(t *testing.T) {
	b := named(t, 36).b
	long := "abcdef"
	wantNumber(t, b, long[1:3], 1)
	wantNumber(t, b, long[1:4], 2)
	wantNumber(t, b, strings.Clone("bc"), 1)
	wantNames(t, b, "bc", "bcd")
}

// Of the pages of a book, those of the names are changed, and what the space says; no others.
func TestOtherPagesStay(t *testing.T) {
	s := shelved(t, 300)
	for page := 2; page < 300; page++ {
		want(t, "Put", s.b.Put(page, of(byte(page))), api.OK)
		anew(t, s.b)
	}
	want(t, "Format", names.Format(s.b), api.OK)
	mine := []int{0, 1}
	for at, name := range plain(100) {
		wantNumber(t, s.b, name, at+1)
		roomy(t, s.b)
	}
	for _, root := range rootsOf(t, s.b) {
		_, pages, e := btree.Check(s.b, root)
		want(t, "Check", e, api.OK)
		mine = append(mine, pages...)
	}
	for page, data := range pagesOf(t, s.b) {
		if !slices.Contains(mine, page) && !bytes.Equal(data, of(byte(page))) {
			t.Errorf("page %d was changed", page)
		}
	}
}

// Calls that only look change nothing, in a transaction or without one.
func TestLooking(t *testing.T) {
	s := named(t, 300, plain(100)...)
	look := func() {
		wantNames(t, s.b, plain(100)...)
		wantNoFind(t, s.b, "other", api.OK)
	}
	s.wantNothing(t, look)
	want(t, "Commit", s.b.Commit(), api.OK)
	s.wantNothing(t, look)
}

// Books have nothing in common.
func TestBooksShareNothing(t *testing.T) {
	a, b := named(t, 300, "a", "b").b, named(t, 300, "x").b
	wantNumber(t, b, "b", 2)
	wantNumber(t, a, "x", 3)
	wantNames(t, a, "a", "b", "x")
	wantNames(t, b, "x", "b")
	want(t, "Format", names.Format(a), api.OK)
	wantNames(t, a)
	wantNames(t, b, "x", "b")
}

// Names are what the pages say, and so they are found again by whoever opens the book; and their numbers go on from there.
func TestNamesBehindACrash(t *testing.T) {
	d := laid(t, 300)
	b := openedBook(t, d)
	want(t, "Begin", b.Begin(), api.OK)
	want(t, "space.Format", space.Format(b), api.OK)
	want(t, "Format", names.Format(b), api.OK)
	for at, name := range plain(100) {
		wantNumber(t, b, name, at+1)
		roomy(t, b)
	}
	anew(t, b)
	free := freeOf(t, b)
	wantNumber(t, b, "lost", 101)
	d.Wake(nil)
	b = openedBook(t, d)
	wantNames(t, b, plain(100)...)
	wantNoFind(t, b, "lost", api.OK)
	if n := freeOf(t, b); n != free {
		t.Errorf("%d pages are free, where %d were", n, free)
	}
	want(t, "Begin", b.Begin(), api.OK)
	wantNumber(t, b, "name99", 100)
	wantNumber(t, b, "other", 101)
	wantNames(t, b, append(plain(100), "other")...)
}
