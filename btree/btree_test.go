package btree_test

import (
	"bytes"
	"fmt"
	"maps"
	"math"
	"math/rand"
	"reflect"
	"slices"
	"strings"
	"testing"

	"parchment/api"
	"parchment/btree"
	"parchment/change"
	"parchment/device"
	"parchment/log"
	"parchment/pool"
	"parchment/restore"
	"parchment/space"
)

// shelf is a book and all that it is of.
type shelf struct {
	d *device.Device
	l *log.Log
	p *pool.Pool
	b *change.Book
}

// laid is a device whose book has so many pages.
func laid(t *testing.T, pages int) *device.Device {
	t.Helper()
	d := device.New(2 * (pages + 2))
	want(t, "change.Format", change.Format(d), api.OK)
	return d
}

// bare is a book of so many pages of noughts, with 8 frames, in a transaction.
func bare(t *testing.T, pages int) shelf {
	t.Helper()
	d := laid(t, pages)
	first, pages, at, count := change.Place(d.Blocks())
	l, e := log.Open(d, at, count, 1, 2)
	want(t, "log.Open", e, api.OK)
	p := pool.New(d, l, first, pages, 8)
	b := change.New(d, l, p)
	if b == nil {
		t.Fatal("no book")
	}
	want(t, "Begin", b.Begin(), api.OK)
	return shelf{d, l, p, b}
}

// shelved is such a book that has a space.
func shelved(t *testing.T, pages int) shelf {
	t.Helper()
	s := bare(t, pages)
	want(t, "space.Format", space.Format(s.b), api.OK)
	anew(t, s.b)
	return s
}

func book(t *testing.T, pages int) *change.Book {
	t.Helper()
	return shelved(t, pages).b
}

// anew ends a book's transaction, and begins another one, for which the log has room again.
func anew(t *testing.T, b *change.Book) {
	t.Helper()
	want(t, "Commit", b.Commit(), api.OK)
	want(t, "Begin", b.Begin(), api.OK)
}

// roomy begins anew where the transaction has grown.
func roomy(t *testing.T, b *change.Book) {
	t.Helper()
	if b.Changes() > 60 {
		anew(t, b)
	}
}

// of is a page of one byte.
func of(x byte) []byte {
	return bytes.Repeat([]byte{x}, api.BlockSize)
}

func crash(d *device.Device) {
	d.Arm(1)
	d.Sync()
}

func want(t *testing.T, call string, got, want api.Errno) {
	t.Helper()
	if got != want {
		t.Fatalf("%s = %d; want %d", call, got, want)
	}
}

func wantNew(t *testing.T, b *change.Book) int {
	t.Helper()
	root, e := btree.New(b)
	want(t, "New", e, api.OK)
	return root
}

func wantNoNew(t *testing.T, b *change.Book, want api.Errno) {
	t.Helper()
	if root, e := btree.New(b); root != 0 || e != want {
		t.Fatalf("New = %d, %d; want %d", root, e, want)
	}
}

func wantGet(t *testing.T, b *change.Book, root int, key, value string) {
	t.Helper()
	if v, is, e := btree.Get(b, root, []byte(key)); string(v) != value || !is || e != api.OK {
		t.Fatalf("Get(%q) = %q, %v, %d; want %q", key, v, is, e, value)
	}
}

// wantNone holds what Get is told of a key without a cell; of an error, too.
func wantNone(t *testing.T, b *change.Book, root int, key string, want api.Errno) {
	t.Helper()
	if v, is, e := btree.Get(b, root, []byte(key)); len(v) > 0 || is || e != want {
		t.Fatalf("Get(%q) = %q, %v, %d; want %d", key, v, is, e, want)
	}
}

// wantPut tells the root behind a Put.
func wantPut(t *testing.T, b *change.Book, root int, key, value string) int {
	t.Helper()
	root, e := btree.Put(b, root, []byte(key), []byte(value))
	want(t, "Put", e, api.OK)
	return root
}

func wantNoPut(t *testing.T, b *change.Book, root int, key, value string, want api.Errno) {
	t.Helper()
	if r, e := btree.Put(b, root, []byte(key), []byte(value)); r != 0 || e != want {
		t.Fatalf("Put(%q, %q) = %d, %d; want %d", key, value, r, e, want)
	}
}

// wantDelete tells the root behind a Delete.
func wantDelete(t *testing.T, b *change.Book, root int, key string, was bool) int {
	t.Helper()
	r, is, e := btree.Delete(b, root, []byte(key))
	if is != was || e != api.OK {
		t.Fatalf("Delete(%q) = %d, %v, %d; want %v", key, r, is, e, was)
	}
	return r
}

func wantNoDelete(t *testing.T, b *change.Book, root int, key string, want api.Errno) {
	t.Helper()
	if r, is, e := btree.Delete(b, root, []byte(key)); r != 0 || is || e != want {
		t.Fatalf("Delete(%q) = %d, %v, %d; want %d", key, r, is, e, want)
	}
}

func wantDrop(t *testing.T, b *change.Book, root int, must api.Errno) {
	t.Helper()
	want(t, "Drop", btree.Drop(b, root), must)
}

// wantCheck holds a tree against how many cells it has, and what follows (P15.4); told are its pages.
func wantCheck(t *testing.T, b *change.Book, root, cells int) []int {
	t.Helper()
	n, pages, e := btree.Check(b, root)
	if n != cells || e != api.OK {
		t.Fatalf("Check = %d, %v, %d; want %d cells", n, pages, e, cells)
	}
	if len(pages) > 4+4*cells {
		t.Fatalf("a tree of %d cells has %d pages", cells, len(pages))
	}
	if !slices.Contains(pages, root) || !slices.IsSorted(pages) || len(slices.Compact(slices.Clone(pages))) != len(pages) {
		t.Fatalf("the pages of the root %d are %v", root, pages)
	}
	for _, page := range pages {
		if is, e := space.Taken(b, page); !is || e != api.OK || page < ownOf(b.Pages()) {
			t.Fatalf("page %d of the tree is none that was taken", page)
		}
	}
	return pages
}

func wantNoCheck(t *testing.T, b *change.Book, root int, want api.Errno) {
	t.Helper()
	if n, pages, e := btree.Check(b, root); n != 0 || len(pages) > 0 || e != want {
		t.Fatalf("Check(%d) = %d, %v, %d; want %d", root, n, pages, e, want)
	}
}

// wantNoTree holds what each call is told of a page that is no root.
func wantNoTree(t *testing.T, b *change.Book, root int) {
	t.Helper()
	wantNone(t, b, root, "a", api.ErrShape)
	wantNoPut(t, b, root, "a", "1", api.ErrShape)
	wantNoDelete(t, b, root, "a", api.ErrShape)
	wantDrop(t, b, root, api.ErrShape)
	wantNoCheck(t, b, root, api.ErrShape)
}

// wantBounds holds a tree into which cells of other and other keys were put alone against how many pages it may have.
func wantBounds(t *testing.T, b *change.Book, root int, cells map[string]string) {
	t.Helper()
	n := 0
	for key, value := range cells {
		n += len(key) + len(value)
	}
	c := len(cells)
	if pages := wantCheck(t, b, root, c); len(pages) > 3+(n+3*c)/60 {
		t.Fatalf("%d cells of %d bytes have %d pages", c, n, len(pages))
	}
}

// wantCells holds a tree against all cells that it must have, and keys close to theirs against there being none.
func wantCells(t *testing.T, b *change.Book, root int, cells map[string]string) {
	t.Helper()
	wantCheck(t, b, root, len(cells))
	for key, value := range cells {
		wantGet(t, b, root, key, value)
		for _, other := range []string{key + "\x00", key[:len(key)-1], key + "\xff"} {
			if _, is := cells[other]; !is && len(other) > 0 && len(other) <= api.MaxKey {
				wantNone(t, b, root, other, api.OK)
			}
		}
	}
}

// ownOf is how many pages of so many are a space's own, in the words of chapter 14.
func ownOf(pages int) int {
	m := 0
	for 4096*m < pages {
		m++
	}
	return 1 + m
}

func freeOf(t *testing.T, b *change.Book) int {
	t.Helper()
	n, e := space.Free(b)
	want(t, "Free", e, api.OK)
	return n
}

// pagesOf are all pages of a book.
func pagesOf(t *testing.T, b *change.Book) [][]byte {
	t.Helper()
	var out [][]byte
	for page := range b.Pages() {
		data, e := b.Page(page)
		want(t, "Page", e, api.OK)
		out = append(out, data)
	}
	return out
}

// wantNothing holds the pages and the log ahead of some calls against what they are behind them.
func (s shelf) wantNothing(t *testing.T, do func()) {
	t.Helper()
	pages, end, changes, in := pagesOf(t, s.b), s.l.End(), s.b.Changes(), s.b.In()
	do()
	if s.l.End() != end || s.b.Changes() != changes || s.b.In() != in {
		t.Fatal("the transaction has gone on")
	}
	if !reflect.DeepEqual(pagesOf(t, s.b), pages) {
		t.Fatal("pages were changed")
	}
}

// leave lets the log have just so many bytes of room, or up to 35 more, by records of somebody else's.
func (s shelf) leave(t *testing.T, room int) {
	t.Helper()
	for s.l.Room() > room+35 {
		r := api.Record{Kind: api.RecCommit, Tx: 1 << 60}
		if over := s.l.Room() - room; over > 700 {
			r = api.Record{Kind: api.RecUndo, Tx: 1 << 60, Span: api.Span{New: of(0)}}
		} else if over >= 52 && over <= 563 {
			r = api.Record{Kind: api.RecUndo, Tx: 1 << 60, Span: api.Span{New: make([]byte, over-51)}}
		}
		_, e := s.l.Append(r)
		want(t, "Append", e, api.OK)
	}
}

// kinds are rows of keys, each by a number: what they have in common, how long they are.
func kinds() map[string]func(i int) string {
	return map[string]func(i int) string{
		"short":   func(i int) string { return fmt.Sprintf("%04x", i) },
		"middle":  func(i int) string { return fmt.Sprintf("%030d", i) },
		"long":    func(i int) string { return strings.Repeat("k", 155) + fmt.Sprintf("%05d", i) },
		"early":   func(i int) string { return fmt.Sprintf("%05d", i) + strings.Repeat("k", 155) },
		"bytes":   func(i int) string { return string([]byte{byte(i >> 8), byte(i), 0, 255}) },
		"growing": func(i int) string { return fmt.Sprintf("%04d", i) + strings.Repeat("\xff", i%157) },
		"mixed":   func(i int) string { return strings.Repeat("m", i%3*70) + fmt.Sprintf("%05d", i) },
	}
}

// orders are rows of the numbers below n.
func orders(n int) map[string][]int {
	up := make([]int, n)
	for i := range up {
		up[i] = i
	}
	down := slices.Clone(up)
	slices.Reverse(down)
	twice := slices.Clone(up) // by turns from the beginning and from the middle
	for i := range twice {
		twice[i] = i/2 + i%2*(n/2)
	}
	return map[string][]int{"up": up, "down": down, "twice": twice, "any": rand.New(rand.NewSource(int64(n))).Perm(n)}
}

// The chapter's example.
func TestExample(t *testing.T) {
	b := book(t, 36)
	root := wantNew(t, b)
	r := wantPut(t, b, root, "b", "2")
	r = wantPut(t, b, r, "a", "1")
	r = wantPut(t, b, r, "b", "3")
	wantGet(t, b, r, "a", "1")
	wantGet(t, b, r, "b", "3")
	if n, pages, e := btree.Check(b, r); n != 2 || !slices.Equal(pages, []int{r}) || e != api.OK {
		t.Errorf("Check = %d, %v, %d", n, pages, e)
	}
	r = wantDelete(t, b, r, "a", true)
	r = wantDelete(t, b, r, "a", false)
	wantNone(t, b, r, "a", api.OK)
	wantGet(t, b, r, "b", "3")
	wantNoPut(t, b, r, "", "", api.ErrArg)
	wantNoPut(t, b, r, strings.Repeat("k", 161), "", api.ErrArg)
	wantNoPut(t, b, r, strings.Repeat("k", 100), strings.Repeat("v", 101), api.ErrArg)
}

// P15.1.

func TestNew(t *testing.T) {
	for _, pages := range []int{10, 36, 4095, 4097, 8193} {
		b := book(t, pages)
		free := freeOf(t, b)
		seen := map[int]bool{}
		for i := range 5 {
			root := wantNew(t, b)
			if seen[root] {
				t.Fatalf("two trees have the root %d", root)
			}
			seen[root] = true
			if all := wantCheck(t, b, root, 0); !slices.Equal(all, []int{root}) {
				t.Fatalf("the pages of a new tree are %v", all)
			}
			if n := freeOf(t, b); n != free-1-i {
				t.Fatalf("%d of %d pages are free behind %d trees", n, free, 1+i)
			}
			wantNone(t, b, root, "a", api.OK)
			if r := wantDelete(t, b, root, "a", false); r != root {
				t.Fatalf("the root %d has become %d", root, r)
			}
		}
	}
}

// Whatever stood on the page that it gets.
func TestNewOnAPageThatWasUsed(t *testing.T) {
	b := book(t, 36)
	for _, data := range [][]byte{of(1), of(255), of(112), of(96)} {
		root := wantNew(t, b)
		wantDrop(t, b, root, api.OK)
		anew(t, b)
		want(t, "Put", b.Put(root, data), api.OK)
		anew(t, b)
		if again := wantNew(t, b); again != root {
			t.Fatalf("page %d is free, and %d was taken", root, again)
		}
		wantCheck(t, b, root, 0)
		wantDrop(t, b, root, api.OK)
	}
}

func TestNewOfAFullSpace(t *testing.T) {
	s := shelved(t, 12)
	for range 10 {
		wantNew(t, s.b)
	}
	s.wantNothing(t, func() { wantNoNew(t, s.b, api.ErrFull) })
	wantDrop(t, s.b, 5, api.OK)
	if root := wantNew(t, s.b); root != 5 {
		t.Errorf("New = %d", root)
	}
	wantNoNew(t, s.b, api.ErrFull)
}

func TestNoSpace(t *testing.T) {
	s := bare(t, 36)
	s.wantNothing(t, func() {
		wantNoNew(t, s.b, api.ErrShape)
		for page := range 36 {
			wantNoTree(t, s.b, page)
		}
	})
}

// P15.2.

// Keys of all kinds, put in all orders, are got at any time, and deleted in all orders.
func TestPutGetDelete(t *testing.T) {
	for kind, key := range kinds() {
		for _, way := range []string{"up up", "up down", "up any", "down up", "twice down", "any any"} {
			in, out, _ := strings.Cut(way, " ")
			t.Run(kind+" "+way, func(t *testing.T) { putGetDelete(t, key, orders(200)[in], orders(200)[out]) })
		}
	}
}

func putGetDelete(t *testing.T, key func(int) string, first, then []int) {
	b := book(t, 1200)
	free := freeOf(t, b)
	root := wantNew(t, b)
	cells := map[string]string{}
	for i, k := range first {
		value := fmt.Sprint(k)
		wantNone(t, b, root, key(k), api.OK)
		root = wantPut(t, b, root, key(k), value)
		cells[key(k)] = value
		wantGet(t, b, root, key(k), value)
		if i%75 == 0 {
			wantBounds(t, b, root, cells)
			wantCells(t, b, root, cells)
		}
		roomy(t, b)
	}
	wantBounds(t, b, root, cells)
	wantCells(t, b, root, cells)
	for i, k := range then {
		root = wantDelete(t, b, root, key(k), true)
		delete(cells, key(k))
		wantNone(t, b, root, key(k), api.OK)
		if i%75 == 0 || len(cells) < 10 {
			wantCells(t, b, root, cells)
		}
		roomy(t, b)
	}
	if n := freeOf(t, b); n != free-1 {
		t.Errorf("%d of %d pages are free beside a tree without cells", n, free)
	}
	wantDrop(t, b, root, api.OK)
	if n := freeOf(t, b); n != free {
		t.Errorf("%d of %d pages are free behind Drop", n, free)
	}
}

// Cells as long, and as short, as they may be.
func TestSizes(t *testing.T) {
	for _, c := range []struct{ key, value int }{{1, 0}, {1, 199}, {2, 198}, {40, 160}, {159, 41}, {160, 0}, {160, 1}, {160, 40}, {100, 100}} {
		b := book(t, 300)
		root := wantNew(t, b)
		cells := map[string]string{}
		for i := range 100 {
			key := string([]byte{byte(i * 37)}) + strings.Repeat("k", c.key-1)
			value := strings.Repeat(string(rune('a'+i%26)), c.value)
			root = wantPut(t, b, root, key, value)
			cells[key] = value
			roomy(t, b)
		}
		wantBounds(t, b, root, cells)
		wantCells(t, b, root, cells)
	}
}

// Keys stand as their bytes do, and are told apart by each of them; what begins as another one does is behind it.
func TestKeysThatAreAlike(t *testing.T) {
	b := book(t, 300)
	root := wantNew(t, b)
	cells := map[string]string{}
	for _, x := range []string{"\x00", "\x01", "k", "\x7f", "\x80", "\xff"} {
		for n := 1; n <= api.MaxKey; n += 7 {
			key := strings.Repeat(x, n)
			root = wantPut(t, b, root, key, fmt.Sprint(x, n))
			cells[key] = fmt.Sprint(x, n)
			roomy(t, b)
		}
	}
	for n := range 256 {
		key := string([]byte{'k', byte(n)})
		root = wantPut(t, b, root, key, fmt.Sprint(n))
		cells[key] = fmt.Sprint(n)
		roomy(t, b)
	}
	wantCells(t, b, root, cells)
}

// A cell is put in the place of one with its key, be it longer, shorter, the same or empty.
func TestReplace(t *testing.T) {
	for kind, key := range kinds() {
		b := book(t, 1200)
		root := wantNew(t, b)
		cells := map[string]string{}
		r := rand.New(rand.NewSource(1))
		for i := range 1500 {
			k := key(r.Intn(120))
			value := strings.Repeat("v", r.Intn(api.MaxCell-len(k)+1))
			root = wantPut(t, b, root, k, value)
			cells[k] = value
			if i%100 == 99 {
				wantCells(t, b, root, cells)
			}
			roomy(t, b)
		}
		for k := range cells {
			root = wantPut(t, b, root, k, "")
			cells[k] = ""
			roomy(t, b)
		}
		t.Run(kind, func(t *testing.T) { wantCells(t, b, root, cells) })
	}
}

// What is there already changes nothing; nor does a Delete of what is not there.
func TestNothingToDo(t *testing.T) {
	s := shelved(t, 300)
	root := wantNew(t, s.b)
	for i := range 100 {
		root = wantPut(t, s.b, root, kinds()["middle"](2*i), fmt.Sprint(i))
		roomy(t, s.b)
	}
	s.wantNothing(t, func() {
		for i := range 100 {
			if r := wantPut(t, s.b, root, kinds()["middle"](2*i), fmt.Sprint(i)); r != root {
				t.Fatalf("the root %d has become %d", root, r)
			}
			if r := wantDelete(t, s.b, root, kinds()["middle"](2*i+1), false); r != root {
				t.Fatalf("the root %d has become %d", root, r)
			}
		}
	})
}

// What no cell may be is refused, whatever the root is, and changes nothing.
func TestArguments(t *testing.T) {
	s := shelved(t, 36)
	root := wantNew(t, s.b)
	key := func(n int) string { return strings.Repeat("k", n) }
	wantPut(t, s.b, root, key(160), key(40))
	s.wantNothing(t, func() {
		for _, r := range append(wrongPages(36), 0, 1, root, root+1) {
			for _, n := range []int{0, 161, 162, 200, 255, 256, 257, 300, 416, 70000} {
				wantNone(t, s.b, r, key(n), api.ErrArg)
				wantNoDelete(t, s.b, r, key(n), api.ErrArg)
				wantNoPut(t, s.b, r, key(n), "", api.ErrArg)
				wantNoPut(t, s.b, r, key(n), key(40), api.ErrArg)
			}
			for _, c := range [][2]int{{1, 200}, {2, 199}, {100, 101}, {160, 41}, {1, 255}, {1, 256}, {1, 511}, {160, 65536}} {
				wantNoPut(t, s.b, r, key(c[0]), key(c[1]), api.ErrArg)
			}
		}
	})
	wantGet(t, s.b, root, key(160), key(40))
	wantCheck(t, s.b, root, 1)
}

// wrongPages are numbers that no page of so many has.
func wrongPages(pages int) []int {
	return []int{-1, -2, -4096, pages, pages + 1, pages + 4096, 65535, 65536, 65538, 1 << 32, 1<<32 + 2, 1<<40 + 3, math.MinInt, math.MinInt + 2, math.MaxInt}
}

// A page that is no tree's root is none to any call: noughts, the space's own, what is no page, what a tree has of other pages, and other people's.
func TestRootsThatAreNone(t *testing.T) {
	for _, pages := range []int{300, 4097, 8193} {
		s := shelved(t, pages)
		root := wantNew(t, s.b)
		for i := range 100 {
			root = wantPut(t, s.b, root, kinds()["long"](i), fmt.Sprint(i))
			roomy(t, s.b)
		}
		inner := wantCheck(t, s.b, root, 100)
		other, e := space.Take(s.b)
		want(t, "Take", e, api.OK)
		want(t, "Put", s.b.Put(other, append([]byte{1, 1, 0, 0, 0, 0, 0, 2, 'a', 'b'}, of(0)[10:]...)), api.OK)
		none := slices.DeleteFunc(inner, func(page int) bool { return page == root })
		none = append(none, wrongPages(pages)...)
		none = append(none, other, other+1, pages-1)
		for page := range ownOf(pages) {
			none = append(none, page)
		}
		end := s.l.End()
		for _, page := range none {
			wantNoTree(t, s.b, page)
		}
		if s.l.End() != end {
			t.Error("a call that was told ErrShape has changed something")
		}
		wantCheck(t, s.b, root, 100)
	}
}

// The space's map may look as a tree's page does, whichever pages are taken.
func TestMapThatLooksLikeATree(t *testing.T) {
	b := book(t, 4112)
	for page := 3; page < 4096; page++ {
		_, e := space.Take(b)
		want(t, "Take", e, api.OK)
		roomy(t, b)
	}
	for first := range 256 { // the second page of the map begins with the bits of pages 4096 to 4103
		for range 8 {
			_, e := space.Take(b)
			want(t, "Take", e, api.OK)
		}
		for bit := range 8 {
			if first>>bit&1 == 0 {
				want(t, "Give", space.Give(b, 4096+bit), api.OK)
			}
		}
		data, _ := b.Page(2)
		if int(data[0]) == first && bytes.Equal(data[1:], of(0)[1:]) {
			wantNoTree(t, b, 2)
		}
		for bit := range 8 {
			if first>>bit&1 == 1 {
				want(t, "Give", space.Give(b, 4096+bit), api.OK)
			}
		}
		roomy(t, b)
	}
}

// takeJust takes a page, and none below it.
func takeJust(t *testing.T, b *change.Book, page int) {
	t.Helper()
	var spare []int
	for {
		got, e := space.Take(b)
		want(t, "Take", e, api.OK)
		if got == page {
			break
		}
		spare = append(spare, got)
	}
	for _, page := range spare {
		want(t, "Give", space.Give(b, page), api.OK)
	}
}

// P15.3.

func TestDrop(t *testing.T) {
	for kind, key := range kinds() {
		s := shelved(t, 1200)
		stays := wantNew(t, s.b)
		for i := range 60 {
			stays = wantPut(t, s.b, stays, key(i), "stays")
			roomy(t, s.b)
		}
		free := freeOf(t, s.b)
		root := wantNew(t, s.b)
		for i := range 300 {
			root = wantPut(t, s.b, root, key(i), kind)
			roomy(t, s.b)
		}
		pages := wantCheck(t, s.b, root, 300)
		anew(t, s.b)
		wantDrop(t, s.b, root, api.OK)
		if n := freeOf(t, s.b); n != free {
			t.Fatalf("%d pages are free behind Drop, and %d were ahead of New", n, free)
		}
		for _, page := range pages {
			if is, e := space.Taken(s.b, page); is || e != api.OK {
				t.Fatalf("page %d was not given back", page)
			}
			wantNoTree(t, s.b, page)
		}
		if len(wantCheck(t, s.b, stays, 60)) != 1198-free {
			t.Fatal("the other tree has other pages")
		}
		for i := range 60 {
			wantGet(t, s.b, stays, key(i), "stays")
		}
		want(t, "Abort", s.b.Abort(), api.OK)
		wantCheck(t, s.b, root, 300)
	}
}

// A tree of which a page is another one, bent, gone or given back is not sound.
func TestCheckOfWhatIsNotSound(t *testing.T) {
	s := shelved(t, 300)
	root := wantNew(t, s.b)
	for i := range 200 {
		root = wantPut(t, s.b, root, kinds()["long"](i), fmt.Sprint(i))
		roomy(t, s.b)
	}
	pages := wantCheck(t, s.b, root, 200)
	for i, page := range pages {
		was, _ := s.b.Page(page)
		other, _ := s.b.Page(pages[(i+1)%len(pages)])
		for _, data := range [][]byte{of(0), of(255), other} {
			want(t, "Put", s.b.Put(page, data), api.OK)
			wantNoCheck(t, s.b, root, api.ErrShape)
			want(t, "Put", s.b.Put(page, was), api.OK)
			anew(t, s.b)
		}
		want(t, "Give", space.Give(s.b, page), api.OK)
		wantNoCheck(t, s.b, root, api.ErrShape)
		wantDrop(t, s.b, root, api.ErrShape)
		takeJust(t, s.b, page)
		want(t, "Put", s.b.Put(page, was), api.OK)
		anew(t, s.b)
		wantCheck(t, s.b, root, 200)
	}
}

// Two leaves that have changed their places are seen.
func TestCheckOfPagesThatAreChanged(t *testing.T) {
	s := shelved(t, 300)
	root := wantNew(t, s.b)
	for i := range 40 {
		root = wantPut(t, s.b, root, kinds()["long"](i), fmt.Sprint(i))
		roomy(t, s.b)
	}
	pages := slices.DeleteFunc(wantCheck(t, s.b, root, 40), func(page int) bool { return page == root })
	for i, a := range pages {
		for _, c := range pages[i+1:] {
			first, _ := s.b.Page(a)
			second, _ := s.b.Page(c)
			want(t, "Put", s.b.Put(a, second), api.OK)
			want(t, "Put", s.b.Put(c, first), api.OK)
			wantNoCheck(t, s.b, root, api.ErrShape)
			want(t, "Abort", s.b.Abort(), api.OK)
			want(t, "Begin", s.b.Begin(), api.OK)
		}
	}
	wantCheck(t, s.b, root, 40)
}

// P15.4.

// However cells are sized and in whatever order they come: as many pages as may be, and no more.
func TestBounds(t *testing.T) {
	type row func(i int) (key, value int)
	rows := map[string]row{
		"one byte more than half": func(i int) (int, int) { return 160, 40 },
		"three to a page":         func(i int) (int, int) { return 160, 7 },
		"long behind short":       func(i int) (int, int) { return []int{160, 6, 6}[i%3], []int{40, 0, 0}[i%3] },
		"few long, many short": func(i int) (int, int) {
			return []int{160, 6, 6, 6, 6, 6, 6, 6}[i%8], []int{40, 0, 0, 0, 0, 0, 0, 0}[i%8]
		},
		"short keys, long values":  func(i int) (int, int) { return 6, 194 },
		"rising sizes":             func(i int) (int, int) { return 6 + i%155, 40 * (i % 2) },
		"short keys and no values": func(i int) (int, int) { return 6, 0 },
	}
	for name, sizes := range rows {
		for in, order := range orders(400) {
			for _, ahead := range []bool{false, true} {
				t.Run(fmt.Sprint(name, " ", in, " ", ahead), func(t *testing.T) {
					b := book(t, 1200)
					root := wantNew(t, b)
					cells := map[string]string{}
					for _, i := range order {
						k, v := sizes(i)
						key := strings.Repeat("k", k-6) + fmt.Sprintf("%06d", i)
						if ahead {
							key = fmt.Sprintf("%06d", i) + strings.Repeat("k", k-6)
						}
						root = wantPut(t, b, root, key, strings.Repeat("v", v))
						cells[key] = strings.Repeat("v", v)
						if len(cells)%40 == 0 {
							wantBounds(t, b, root, cells)
						}
						roomy(t, b)
					}
					wantBounds(t, b, root, cells)
				})
			}
		}
	}
}

// A long cell behind, or ahead of, all others of a full page, again and again: each time as few as may be are cut off.
func TestBoundsOfWhatIsPutToTheEdge(t *testing.T) {
	for _, last := range []bool{false, true} {
		b := book(t, 1200)
		root := wantNew(t, b)
		cells := map[string]string{}
		for i := range 500 {
			key := fmt.Sprintf("%05d", i)
			if last && i > 0 {
				key = fmt.Sprintf("%05d", 99999-i) // all behind the first one, each ahead of those that came since
			}
			value := ""
			if i%4 == 0 {
				value = strings.Repeat("v", 195)
			}
			root = wantPut(t, b, root, key, value)
			cells[key] = value
			wantBounds(t, b, root, cells)
			roomy(t, b)
		}
	}
}

// Of however many trees none has a page of another one's.
func TestManyTrees(t *testing.T) {
	b := book(t, 1200)
	free := freeOf(t, b)
	r := rand.New(rand.NewSource(4))
	var roots []int
	cells := make([]map[string]string, 12)
	for i := range cells {
		roots = append(roots, wantNew(t, b))
		cells[i] = map[string]string{}
	}
	for range 3000 {
		i := r.Intn(len(roots))
		key := kinds()["mixed"](r.Intn(60))
		if r.Intn(5) < 3 {
			roots[i] = wantPut(t, b, roots[i], key, fmt.Sprint(i))
			cells[i][key] = fmt.Sprint(i)
		} else {
			_, was := cells[i][key]
			roots[i] = wantDelete(t, b, roots[i], key, was)
			delete(cells[i], key)
		}
		roomy(t, b)
	}
	seen := map[int]int{}
	for i, root := range roots {
		wantCells(t, b, root, cells[i])
		for _, page := range wantCheck(t, b, root, len(cells[i])) {
			seen[page]++
			if seen[page] > 1 {
				t.Fatalf("page %d is of two trees", page)
			}
		}
	}
	if n := freeOf(t, b); n != free-len(seen) {
		t.Errorf("%d of %d pages are free, and the trees have %d", n, free, len(seen))
	}
	for _, root := range roots {
		anew(t, b)
		wantDrop(t, b, root, api.OK)
	}
	if n := freeOf(t, b); n != free {
		t.Errorf("%d of %d pages are free behind all", n, free)
	}
}

// The errors' order, and those of the book and its space.

func TestNoTransaction(t *testing.T) {
	s := shelved(t, 36)
	root := wantNew(t, s.b)
	wantPut(t, s.b, root, "a", "1")
	want(t, "Commit", s.b.Commit(), api.OK)
	s.wantNothing(t, func() {
		wantNoNew(t, s.b, api.ErrState)
		for _, r := range append(wrongPages(36), 0, 1, root, root+1) {
			for _, key := range []string{"", "a", "b", strings.Repeat("k", 161)} {
				wantNoPut(t, s.b, r, key, "1", api.ErrState)
				wantNoDelete(t, s.b, r, key, api.ErrState)
			}
			wantNoPut(t, s.b, r, "a", strings.Repeat("k", 200), api.ErrState)
			wantDrop(t, s.b, r, api.ErrState)
		}
		wantGet(t, s.b, root, "a", "1")
		wantCheck(t, s.b, root, 1)
	})
	crash(s.d)
	wantNoNew(t, s.b, api.ErrState)
	wantNoPut(t, s.b, root, "a", "2", api.ErrState)
}

func TestNoBook(t *testing.T) {
	for _, b := range []*change.Book{nil, {}, change.New(nil, nil, nil)} {
		wantNoNew(t, b, api.ErrNil)
		for _, root := range append(wrongPages(36), 0, 2) {
			for _, key := range []string{"", "a", strings.Repeat("k", 161)} {
				wantNone(t, b, root, key, api.ErrNil)
				wantNoPut(t, b, root, key, "1", api.ErrNil)
				wantNoDelete(t, b, root, key, api.ErrNil)
			}
			wantDrop(t, b, root, api.ErrNil)
			wantNoCheck(t, b, root, api.ErrNil)
		}
	}
}

func TestDeviceThatIsDown(t *testing.T) {
	s := shelved(t, 300)
	root := wantNew(t, s.b)
	for i := range 100 {
		root = wantPut(t, s.b, root, kinds()["long"](i), "1")
		roomy(t, s.b)
	}
	want(t, "Commit", s.b.Commit(), api.OK)
	want(t, "Point", s.b.Point(), api.OK)
	for page := 200; page < 208; page++ { // so that none of the tree is in a frame
		s.b.Page(page)
		s.b.Page(page)
	}
	want(t, "Begin", s.b.Begin(), api.OK)
	crash(s.d)
	key := kinds()["long"](50)
	wantNoNew(t, s.b, api.ErrDown)
	wantNone(t, s.b, root, key, api.ErrDown)
	wantNoPut(t, s.b, root, key, "2", api.ErrDown)
	wantNoDelete(t, s.b, root, key, api.ErrDown)
	wantDrop(t, s.b, root, api.ErrDown)
	wantNoCheck(t, s.b, root, api.ErrDown)
	wantNone(t, s.b, root, "", api.ErrArg)
	wantNoPut(t, s.b, root, "", "", api.ErrArg)
	wantNoDelete(t, s.b, root, "", api.ErrArg)
	s.d.Wake(nil)
	wantGet(t, s.b, root, key, "1")
	wantCheck(t, s.b, root, 100)
}

func TestFramesThatAreHeld(t *testing.T) {
	s := shelved(t, 300)
	root := wantNew(t, s.b)
	for page := 200; page < 208; page++ {
		want(t, "Hold", s.p.Hold(page), api.OK)
	}
	wantNoNew(t, s.b, api.ErrBusy)
	wantNone(t, s.b, root, "a", api.ErrBusy)
	wantNoPut(t, s.b, root, "a", "1", api.ErrBusy)
	wantNoDelete(t, s.b, root, "a", api.ErrBusy)
	wantDrop(t, s.b, root, api.ErrBusy)
	wantNoCheck(t, s.b, root, api.ErrBusy)
	for page := 201; page < 208; page++ {
		s.p.Leave(page)
	}
	wantPut(t, s.b, root, "a", "1")
	wantGet(t, s.b, root, "a", "1")
}

// A tree needs one frame alone at a time.
func TestOneFrame(t *testing.T) {
	s := shelved(t, 300)
	for page := 200; page < 207; page++ {
		want(t, "Hold", s.p.Hold(page), api.OK)
	}
	root := wantNew(t, s.b)
	for i := range 100 {
		root = wantPut(t, s.b, root, kinds()["long"](i), "1")
		roomy(t, s.b)
	}
	wantCheck(t, s.b, root, 100)
	for i := range 100 {
		root = wantDelete(t, s.b, root, kinds()["long"](i), true)
		roomy(t, s.b)
	}
	wantDrop(t, s.b, root, api.OK)
}

// A transaction that can only be undone takes no more changes.
func TestTransactionThatIsSealed(t *testing.T) {
	s := shelved(t, 36)
	root := wantNew(t, s.b)
	wantPut(t, s.b, root, "a", "1")
	s.d.Arm(1)
	want(t, "Commit", s.b.Commit(), api.ErrDown)
	s.d.Wake(nil)
	wantNoNew(t, s.b, api.ErrState)
	wantNoPut(t, s.b, root, "b", "1", api.ErrState)
	wantNoDelete(t, s.b, root, "a", api.ErrState)
	wantDrop(t, s.b, root, api.ErrState)
	wantGet(t, s.b, root, "a", "1")
	want(t, "Abort", s.b.Abort(), api.OK)
	wantNoCheck(t, s.b, root, api.ErrShape)
}

// Where no page is free a Put that needs one is told so, and undone; what needs none goes on, and so does all behind a few Deletes.
func TestSpaceThatIsFull(t *testing.T) {
	for kind, key := range kinds() {
		s := shelved(t, 60)
		root := wantNew(t, s.b)
		cells := map[string]string{}
		for i := 0; ; i++ {
			anew(t, s.b)
			var was [][]byte
			if freeOf(t, s.b) < 8 {
				was = pagesOf(t, s.b)
			}
			r, e := btree.Put(s.b, root, []byte(key(i)), []byte(kind))
			if e == api.ErrFull && r == 0 && was != nil {
				want(t, "Abort", s.b.Abort(), api.OK)
				if !reflect.DeepEqual(pagesOf(t, s.b), was) {
					t.Fatal("behind Abort all is not as it was")
				}
				want(t, "Begin", s.b.Begin(), api.OK)
				break
			}
			want(t, "Put", e, api.OK)
			root = r
			cells[key(i)] = kind
		}
		wantCells(t, s.b, root, cells)
		for _, k := range slices.Sorted(maps.Keys(cells)) {
			anew(t, s.b)
			root = wantDelete(t, s.b, root, k, true)
			delete(cells, k)
		}
		wantCells(t, s.b, root, cells)
		if n := freeOf(t, s.b); n != 57 {
			t.Fatalf("%d pages are free", n)
		}
	}
}

// With whatever room the log has left, a call is done, or it is told that the log is full; undone, all is as it was.
func TestLogThatIsFull(t *testing.T) {
	long := func(i int) []byte { return []byte(kinds()["long"](i)) }
	calls := map[string]func(b *change.Book, root int) (int, api.Errno){
		"New": func(b *change.Book, _ int) (int, api.Errno) { return btree.New(b) },
		"Put": func(b *change.Book, root int) (int, api.Errno) { return btree.Put(b, root, long(70), []byte("12345")) },
		"Put in the middle": func(b *change.Book, root int) (int, api.Errno) {
			return btree.Put(b, root, append(long(23)[:159], '4'), []byte("12345"))
		},
		"Delete": func(b *change.Book, root int) (int, api.Errno) {
			r, is, e := btree.Delete(b, root, long(5))
			if is != (e == api.OK) {
				t.Fatalf("Delete = %d, %v, %d", r, is, e)
			}
			return r, e
		},
		"Drop": func(b *change.Book, root int) (int, api.Errno) {
			e := btree.Drop(b, root)
			if e != api.OK {
				return 0, e
			}
			return root, e
		},
	}
	for name, call := range calls {
		done, full := 0, 0
		for room := 100; room < 12000; room += 60 + room/20 {
			s := shelved(t, 150)
			root := wantNew(t, s.b)
			for i := range 70 {
				root = wantPut(t, s.b, root, kinds()["long"](i), "1")
				roomy(t, s.b)
			}
			anew(t, s.b)
			was := pagesOf(t, s.b)
			s.leave(t, room)
			switch r, e := call(s.b, root); {
			case e == api.OK && r > 0:
				done++
			case e == api.ErrFull && r == 0:
				full++
			default:
				t.Fatalf("%s with room for %d: %d, %d", name, room, r, e)
			}
			want(t, "Abort", s.b.Abort(), api.OK)
			if !reflect.DeepEqual(pagesOf(t, s.b), was) {
				t.Fatalf("%s with room for %d: behind Abort all is not as it was", name, room)
			}
		}
		if done == 0 || full == 0 {
			t.Errorf("%s was done %d times, and found the log full %d times", name, done, full)
		}
	}
}

// R3, R5.

// What is handed in is not changed, nor its spare room, and not kept; what is handed out is new.
func TestHandedInAndOut(t *testing.T) {
	b := book(t, 300)
	root := wantNew(t, b)
	for i := range 100 {
		key := append(make([]byte, 0, 300), kinds()["long"](i)...)
		value := append(make([]byte, 0, 300), fmt.Sprint(i)...)
		spare := [][]byte{key[:300], value[:300]}
		was := [][]byte{bytes.Clone(spare[0]), bytes.Clone(spare[1])}
		same := func(call string) {
			if !reflect.DeepEqual(spare, was) {
				t.Fatalf("%s has changed what it was handed", call)
			}
		}
		var e api.Errno
		root, e = btree.Put(b, root, key, value)
		want(t, "Put", e, api.OK)
		same("Put")
		btree.Get(b, root, key)
		same("Get")
		btree.Delete(b, root, key)
		same("Delete")
		root, e = btree.Put(b, root, key, value)
		want(t, "Put", e, api.OK)
		for _, row := range spare {
			for at := range row {
				row[at] = 'x'
			}
		}
		wantGet(t, b, root, kinds()["long"](i), fmt.Sprint(i))
		roomy(t, b)
	}
	wantNewEachTime(t, b, root)
}

func wantNewEachTime(t *testing.T, b *change.Book, root int) {
	t.Helper()
	for i := range 100 {
		v, _, _ := btree.Get(b, root, []byte(kinds()["long"](i)))
		for at := range v[:cap(v)] {
			v[:cap(v)][at] = 'x'
		}
		wantGet(t, b, root, kinds()["long"](i), fmt.Sprint(i))
	}
	_, pages, _ := btree.Check(b, root)
	was := slices.Clone(pages)
	for at := range pages[:cap(pages)] {
		pages[:cap(pages)][at] = -1
	}
	if again := wantCheck(t, b, root, 100); !slices.Equal(again, was) {
		t.Errorf("the pages %v have become %v", was, again)
	}
}

// Of the pages of a book, those of the tree are changed, and what the space says; no others.
func TestOtherPagesStay(t *testing.T) {
	s := shelved(t, 300)
	stays := wantNew(t, s.b)
	root := wantNew(t, s.b)
	for i := range 40 {
		stays = wantPut(t, s.b, stays, kinds()["long"](i), "stays")
		roomy(t, s.b)
	}
	r := rand.New(rand.NewSource(9))
	was := pagesOf(t, s.b)
	mine := map[int]bool{0: true, 1: true, root: true}
	for i := range 400 {
		key := kinds()["long"](r.Intn(80))
		if i%5 < 3 {
			root = wantPut(t, s.b, root, key, "1")
		} else {
			root, _, _ = btree.Delete(s.b, root, []byte(key))
		}
		_, pages, _ := btree.Check(s.b, root)
		for _, page := range pages {
			mine[page] = true
		}
		roomy(t, s.b)
	}
	for page, data := range pagesOf(t, s.b) {
		if !mine[page] && !bytes.Equal(data, was[page]) {
			t.Errorf("page %d was changed", page)
		}
	}
}

// Calls that only look change nothing.
func TestLooking(t *testing.T) {
	s := shelved(t, 300)
	root := wantNew(t, s.b)
	for i := range 100 {
		root = wantPut(t, s.b, root, kinds()["long"](i), "1")
		roomy(t, s.b)
	}
	s.wantNothing(t, func() {
		for i := range 110 {
			btree.Get(s.b, root, []byte(kinds()["long"](i)))
			btree.Check(s.b, root)
		}
	})
}

// Books have nothing in common.
func TestBooksShareNothing(t *testing.T) {
	a, b := book(t, 300), book(t, 300)
	in, other := wantNew(t, a), wantNew(t, b)
	for i := range 50 {
		in = wantPut(t, a, in, kinds()["long"](i), "a")
		other = wantPut(t, b, other, kinds()["long"](2*i), "b")
		roomy(t, a)
		roomy(t, b)
	}
	for i := range 50 {
		wantGet(t, a, in, kinds()["long"](i), "a")
		wantGet(t, b, other, kinds()["long"](2*i), "b")
		wantNone(t, b, other, kinds()["long"](2*i+1), api.OK)
	}
}

// A tree is what its pages say, and so it is found again by whoever opens the book.
func TestTreeBehindACrash(t *testing.T) {
	d := laid(t, 300)
	b := openedBook(t, d)
	want(t, "Begin", b.Begin(), api.OK)
	want(t, "space.Format", space.Format(b), api.OK)
	root := wantNew(t, b)
	for i := range 100 {
		root = wantPut(t, b, root, kinds()["long"](i), fmt.Sprint(i))
		roomy(t, b)
	}
	anew(t, b)
	for i := range 20 {
		wantDelete(t, b, root, kinds()["long"](5*i), true)
	}
	d.Wake(nil)
	b = openedBook(t, d)
	wantCheck(t, b, root, 100)
	for i := range 100 {
		wantGet(t, b, root, kinds()["long"](i), fmt.Sprint(i))
	}
}

func openedBook(t *testing.T, d *device.Device) *change.Book {
	t.Helper()
	b, _, e := restore.Open(d, 8)
	want(t, "Open", e, api.OK)
	return b
}
