package names_test

import (
	"bytes"
	"fmt"
	"math"
	"math/rand"
	"slices"
	"strings"
	"testing"

	"parchment/api"
	"parchment/btree"
	"parchment/change"
	"parchment/key"
	"parchment/names"
	"parchment/space"
)

// R1, R2 and ErrShape over trees and pages that no call of this package wrote, though they stand where a book's names do.

// What the tests know of the trees: under the root 1 names' numbers stand under the names, under the root 2 names stand under their numbers, each number as key.PutInt writes it.
const (
	byName = iota
	byNumber
)

// cell lets one of a book's trees have a cell.
func cell(t *testing.T, b *change.Book, which int, k, value []byte) {
	t.Helper()
	root, e := btree.Put(b, rootsOf(t, b)[which], k, value)
	want(t, "btree.Put", e, api.OK)
	want(t, "SetRoot", space.SetRoot(b, 1+which, root), api.OK)
}

// digits are a number's bytes, and more behind them.
func digits(n int, more ...byte) []byte {
	return append(key.PutInt(int64(n)), more...)
}

// wrongNumbers are bytes that tell the number of no name.
func wrongNumbers() [][]byte {
	out := [][]byte{{0}, {255}, []byte("2"), digits(2)[:7], digits(2)[1:], digits(2, 0), digits(2, digits(3)...), digits(0), digits(-1), digits(math.MinInt), bytes.Repeat([]byte{0}, 8)}
	for n := 9; n <= 100; n += 13 {
		out = append(out, bytes.Repeat([]byte{255}, n))
	}
	return out
}

// Under a name stands what is no number: that name has none, and the others keep theirs.
func TestForgedNumbers(t *testing.T) {
	s := named(t, 300, "a", "b", "c")
	for _, value := range append(wrongNumbers(), nil) {
		undone(t, s.b, func() {
			cell(t, s.b, byName, []byte("b"), value)
			s.wantNothing(t, func() {
				wantNoNumber(t, s.b, "b", api.ErrShape)
				wantNoFind(t, s.b, "b", api.ErrShape)
				wantNumber(t, s.b, "a", 1)
				wantFind(t, s.b, "c", 3)
				wantName(t, s.b, 2, "b")
			})
			wantNumber(t, s.b, "d", 4)
		})
	}
	wantNames(t, s.b, "a", "b", "c")
}

// Under a number stands what is no name.
func TestForgedNames(t *testing.T) {
	s := named(t, 300, "a", "b", "c")
	for _, value := range [][]byte{nil, bytes.Repeat([]byte{'x'}, 101), make([]byte, 101), bytes.Repeat([]byte{255}, 192)} {
		undone(t, s.b, func() {
			cell(t, s.b, byNumber, digits(2), value)
			s.wantNothing(t, func() {
				wantNoName(t, s.b, 2, api.ErrShape)
				wantName(t, s.b, 1, "a")
				wantName(t, s.b, 3, "c")
				wantFind(t, s.b, "b", 2)
			})
			wantNumber(t, s.b, "d", 4)
		})
	}
	for _, name := range []string{"x", strings.Repeat("x", 100), "\x00"} { // and what is one
		undone(t, s.b, func() {
			cell(t, s.b, byNumber, digits(2), []byte(name))
			wantName(t, s.b, 2, name)
		})
	}
	wantNames(t, s.b, "a", "b", "c")
}

// Behind all numbers stands what is none, or the greatest of all: no name gets another one, and those that have theirs keep them.
func TestForgedGreatest(t *testing.T) {
	s := named(t, 300, "a", "b")
	greatest := [][]byte{digits(math.MaxInt), digits(math.MaxInt, 0), bytes.Repeat([]byte{255}, 160), bytes.Repeat([]byte{255}, 8), {255}, digits(2, 0), {129}}
	for _, k := range greatest {
		undone(t, s.b, func() {
			cell(t, s.b, byNumber, k, []byte("x"))
			s.wantNothing(t, func() {
				wantNoNumber(t, s.b, "c", api.ErrShape)
				wantNumber(t, s.b, "b", 2)
				wantNoFind(t, s.b, "c", api.OK)
				wantName(t, s.b, 1, "a")
			})
		})
	}
	// A tree in which nothing stands but what is below 1.
	for _, k := range [][]byte{digits(0), digits(-1), digits(math.MinInt), {0}, {127}, digits(1)[:7]} {
		s := named(t, 300)
		cell(t, s.b, byNumber, k, []byte("x"))
		s.wantNothing(t, func() { wantNoNumber(t, s.b, "a", api.ErrShape) })
	}
	wantNames(t, s.b, "a", "b")
}

// One more than the greatest number that a name has, whichever are not there below it; and none beyond the greatest of all.
func TestNumbersThatAreLeftOut(t *testing.T) {
	b := named(t, 300, "a").b
	cell(t, b, byNumber, digits(1000), []byte("x"))
	cell(t, b, byName, []byte("x"), digits(1000))
	wantNumber(t, b, "b", 1001)
	wantNumber(t, b, "c", 1002)
	wantNumber(t, b, "x", 1000)
	wantName(t, b, 1001, "b")
	wantNoName(t, b, 2, api.ErrNone)
	wantNoName(t, b, 999, api.ErrNone)
	for _, n := range []int{1 << 31, 1 << 32, 1<<63 - 3} {
		cell(t, b, byNumber, digits(n), []byte(fmt.Sprint("far", n)))
		wantNumber(t, b, fmt.Sprint("behind", n), n+1)
		wantName(t, b, n+1, fmt.Sprint("behind", n))
		wantFind(t, b, fmt.Sprint("behind", n), n+1)
	}
	wantNumber(t, b, "last", math.MaxInt)
	wantName(t, b, math.MaxInt, "last")
	wantNoNumber(t, b, "more", api.ErrShape)
	wantNoFind(t, b, "more", api.OK)
	wantNumber(t, b, "last", math.MaxInt)
}

// One page of a tree is none of it: who comes there is told so, and nobody else is told anything that is wrong.
func TestForgedPages(t *testing.T) {
	all := plain(200)
	s := named(t, 300, all...)
	for which, root := range rootsOf(t, s.b) {
		_, pages, e := btree.Check(s.b, root)
		want(t, "Check", e, api.OK)
		if len(pages) < 4 {
			t.Fatalf("the tree %d has no pages but %v", which, pages)
		}
		for _, page := range pages {
			undone(t, s.b, func() {
				want(t, "Put", s.b.Put(page, of(255)), api.OK)
				shapes := 0
				for at, name := range all {
					if n, is, e := names.Find(s.b, name); e == api.ErrShape && n == 0 && !is {
						shapes++
					} else if n != at+1 || !is || e != api.OK {
						t.Fatalf("Find(%q) = %d, %v, %d", name, n, is, e)
					}
					if got, e := names.Name(s.b, at+1); e == api.ErrShape && got == "" {
						shapes++
					} else if got != name || e != api.OK {
						t.Fatalf("Name(%d) = %q, %d", at+1, got, e)
					}
				}
				if shapes == 0 || page == root && shapes != 400 {
					t.Errorf("page %d of the tree %d is none, and %d calls were told so", page, which, shapes)
				}
				if n, e := names.Number(s.b, "other"); n != 201 && e == api.OK || n != 0 && e != api.OK {
					t.Errorf("Number = %d, %d", n, e)
				}
			})
		}
	}
	wantNames(t, s.b, all...)
}

// The page on which the greatest number stands is none of its tree, though the way of the name that is asked for goes past it: no number is told.
func TestForgedLastPage(t *testing.T) {
	s := named(t, 300, plain(200)...)
	_, pages, e := btree.Check(s.b, rootsOf(t, s.b)[byNumber])
	want(t, "Check", e, api.OK)
	seen := 0
	for _, page := range pages {
		undone(t, s.b, func() {
			want(t, "Put", s.b.Put(page, of(0)), api.OK)
			_, e := names.Name(s.b, 200)
			if e != api.ErrShape {
				return
			}
			s.wantNothing(t, func() {
				for _, name := range []string{"other", "\x01", "\xff"} {
					wantNoNumber(t, s.b, name, api.ErrShape)
				}
			})
			seen++
		})
	}
	if seen < 2 {
		t.Errorf("%d pages are on the way to the greatest number", seen)
	}
}

// Both roots are one tree, or each the other one's: what stands there is not taken for what it is not.
func TestForgedRoots(t *testing.T) {
	s := named(t, 300, "a", "b")
	at := rootsOf(t, s.b)
	for _, roots := range [][2]int{{at[1], at[0]}, {at[0], at[0]}, {at[1], at[1]}} {
		undone(t, s.b, func() {
			for i, root := range roots {
				want(t, "SetRoot", space.SetRoot(s.b, 1+i, root), api.OK)
			}
			for _, name := range []string{"a", "b", "c", string(digits(1))} {
				n, is, e := names.Find(s.b, name)
				if e != api.OK && (n != 0 || is) || is != (n > 0) {
					t.Errorf("Find(%q) = %d, %v, %d", name, n, is, e)
				}
			}
			for n := range 5 {
				name, e := names.Name(s.b, n)
				if (name == "") != (e != api.OK) {
					t.Errorf("Name(%d) = %q, %d", n, name, e)
				}
			}
			if n, e := names.Number(s.b, "new"); (n > 0) != (e == api.OK) || n < 0 {
				t.Errorf("Number = %d, %d", n, e)
			}
		})
	}
	wantNames(t, s.b, "a", "b")
}

// Whatever stands on the pages of a book's names: all calls end, and nothing stands beside an error.
func TestAnyBytes(t *testing.T) {
	all := plain(60)
	s := named(t, 300, all...)
	var pages []int
	for _, root := range rootsOf(t, s.b) {
		_, mine, _ := btree.Check(s.b, root)
		pages = append(pages, mine...)
	}
	r := rand.New(rand.NewSource(18))
	seen := map[api.Errno]int{}
	for range 3000 {
		undone(t, s.b, func() {
			for range 1 + r.Intn(3) {
				bend(t, r, s.b, pages)
			}
			name := all[r.Intn(len(all))]
			n, is, e := names.Find(s.b, name)
			if e != api.OK && e != api.ErrShape || is != (n > 0) || e != api.OK && is {
				t.Fatalf("Find = %d, %v, %d", n, is, e)
			}
			got, e := names.Name(s.b, 1+r.Intn(len(all)))
			if e != api.OK && e != api.ErrShape && e != api.ErrNone || (got != "") != (e == api.OK) {
				t.Fatalf("Name = %q, %d", got, e)
			}
			n, e = names.Number(s.b, []string{name, "other"}[r.Intn(2)])
			if e != api.OK && e != api.ErrShape || (n > 0) != (e == api.OK) || n < 0 {
				t.Fatalf("Number = %d, %d", n, e)
			}
			seen[e]++
		})
	}
	if len(seen) != 2 || seen[api.OK] == 0 || seen[api.ErrShape] == 0 {
		t.Errorf("what was told: %v", seen)
	}
	wantNames(t, s.b, all...)
}

// bend changes one of some pages: bytes of it, or all.
func bend(t *testing.T, r *rand.Rand, b *change.Book, pages []int) {
	t.Helper()
	number := pages[r.Intn(len(pages))]
	p := pageOf(t, b, number)
	switch r.Intn(4) {
	case 0:
		p[r.Intn(12)] ^= 1 << r.Intn(8)
	case 1:
		p[r.Intn(api.BlockSize)] = byte(r.Intn(256))
	case 2:
		p = pageOf(t, b, pages[r.Intn(len(pages))])
	case 3:
		at := r.Intn(api.BlockSize)
		slices.Reverse(p[at:min(at+20, len(p))])
	}
	want(t, "Put", b.Put(number, p), api.OK)
}
