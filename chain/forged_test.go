package chain_test

import (
	"bytes"
	"math/rand"
	"slices"
	"testing"

	"parchment/api"
	"parchment/chain"
	"parchment/change"
	"parchment/page"
	"parchment/space"
)

// R1, R2 and ErrShape over pages that no call of this package wrote, though they look like a chain's.

// What the tests know of a chain's page: its kind says whether a chain begins there; of its cell the first two bytes say how much of the value the pages behind it have, the others are the value's.
const (
	firstKind = 64
	moreKind  = 65
	full      = 502
)

// written is a page with one cell that says so.
func written(kind byte, next, rest int, piece []byte) []byte {
	p := page.New(kind)
	page.SetNext(p, next)
	page.Insert(p, 0, append([]byte{byte(rest >> 8), byte(rest)}, piece...))
	return p
}

// read is what a chain's page says.
func read(p []byte) (kind byte, next, rest int, piece []byte) {
	cell, _ := page.Get(p, 0)
	return page.Kind(p), page.Next(p), int(cell[0])<<8 | int(cell[1]), cell[2:]
}

// long is a book of so many pages, and in it two chains that are alike: their pages as they follow one another.
func long(t *testing.T, n int) (b *change.Book, one, other []int) {
	t.Helper()
	b = book(t, 1200)
	first, second := wantPut(t, b, value(n)), 0
	anew(t, b)
	second = wantPut(t, b, value(n))
	anew(t, b)
	return b, wayOf(t, b, first), wayOf(t, b, second)
}

// wayOf is a chain's pages, from its first one on, as they say it themselves.
func wayOf(t *testing.T, b *change.Book, first int) []int {
	t.Helper()
	var out []int
	for number := first; number > 0; number = page.Next(pageOf(t, b, number)) {
		out = append(out, number)
	}
	if pages, e := chain.Blocks(b, first); e != api.OK || !slices.Equal(slices.Sorted(slices.Values(pages)), slices.Sorted(slices.Values(out))) {
		t.Fatalf("Blocks = %v, %d; want %v", pages, e, out)
	}
	return out
}

// swapped lets two pages have one another's bytes.
func swapped(t *testing.T, b *change.Book, x, y int) {
	t.Helper()
	was := pageOf(t, b, x)
	want(t, "Put", b.Put(x, pageOf(t, b, y)), api.OK)
	want(t, "Put", b.Put(y, was), api.OK)
}

// Whatever is put in the place of any of a chain's pages: noughts, other people's, another one of the chain's, one of another chain's.
func TestPagesInTheWrongPlace(t *testing.T) {
	b, one, other := long(t, 3000)
	for at, number := range one {
		was := pageOf(t, b, number)
		rows := [][]byte{of(0), of(255), of(firstKind), of(moreKind), page.New(firstKind), page.New(moreKind)}
		for _, n := range append(slices.Clone(one), other...) {
			if p := pageOf(t, b, n); !bytes.Equal(p, was) {
				rows = append(rows, p)
			}
		}
		for _, p := range rows {
			// A chain that goes on in another one, which is alike, is seen by nobody but him who goes through both.
			if _, next, _, _ := read(was); at < len(one)-1 && bytes.Equal(p, pageOf(t, b, other[at])) && next != 0 {
				continue
			}
			undone(t, b, func() {
				want(t, "Put", b.Put(number, p), api.OK)
				wantNoChain(t, b, one[0])
			})
		}
	}
	for at, x := range one {
		for _, y := range one[at+1:] {
			undone(t, b, func() {
				swapped(t, b, x, y)
				wantNoChain(t, b, one[0])
			})
		}
	}
	wantChain(t, b, one[0], value(3000))
	wantChain(t, b, other[0], value(3000))
}

// A page of a chain that was given back is none of it, whoever has it.
func TestPagesThatAreGone(t *testing.T) {
	b, one, other := long(t, 3000)
	for _, number := range one {
		undone(t, b, func() {
			want(t, "Give", space.Give(b, number), api.OK)
			wantNoChain(t, b, one[0])
			if page := taken(t, b); page != number {
				t.Fatalf("page %d is free, and %d was taken", number, page)
			}
			wantNoChain(t, b, one[0])
			wantChain(t, b, other[0], value(3000))
		})
	}
}

// What a chain's page may not say.
func TestForgedPages(t *testing.T) {
	b, one, other := long(t, 2000)
	last := len(one) - 1
	for _, x := range []struct {
		name string
		at   int
		bend func(kind byte, next, rest int, piece []byte) []byte
	}{
		{"the first one is another one", 0, func(_ byte, next, rest int, piece []byte) []byte { return written(moreKind, next, rest, piece) }},
		{"the second one is a first one", 1, func(_ byte, next, rest int, piece []byte) []byte { return written(firstKind, next, rest, piece) }},
		{"the last one is a first one", last, func(_ byte, next, rest int, piece []byte) []byte { return written(firstKind, next, rest, piece) }},
		{"of another kind", 1, func(_ byte, next, rest int, piece []byte) []byte { return written(66, next, rest, piece) }},
		{"the first one of another kind", 0, func(_ byte, next, rest int, piece []byte) []byte { return written(0, next, rest, piece) }},
		{"itself next", 0, func(kind byte, _, rest int, piece []byte) []byte { return written(kind, one[0], rest, piece) }},
		{"itself next, of the second one", 1, func(kind byte, _, rest int, piece []byte) []byte { return written(kind, one[1], rest, piece) }},
		{"the first one next", 1, func(kind byte, _, rest int, piece []byte) []byte { return written(kind, one[0], rest, piece) }},
		{"the one ahead next", 2, func(kind byte, _, rest int, piece []byte) []byte { return written(kind, one[1], rest, piece) }},
		{"one is left out", 0, func(kind byte, _, rest int, piece []byte) []byte { return written(kind, one[2], rest, piece) }},
		{"another chain next", 0, func(kind byte, _, rest int, piece []byte) []byte { return written(kind, other[0], rest, piece) }},
		{"another chain's third one next", 0, func(kind byte, _, rest int, piece []byte) []byte { return written(kind, other[2], rest, piece) }},
		{"none next", 0, func(kind byte, _, rest int, piece []byte) []byte { return written(kind, 0, rest, piece) }},
		{"none next, of the second one", 1, func(kind byte, _, rest int, piece []byte) []byte { return written(kind, 0, rest, piece) }},
		{"the map next", 0, func(kind byte, _, rest int, piece []byte) []byte { return written(kind, 1, rest, piece) }},
		{"a free page next", 0, func(kind byte, _, rest int, piece []byte) []byte { return written(kind, 1000, rest, piece) }},
		{"no page next", 1, func(kind byte, _, rest int, piece []byte) []byte { return written(kind, b.Pages(), rest, piece) }},
		{"the highest number next", 1, func(kind byte, _, rest int, piece []byte) []byte { return written(kind, 1<<32-1, rest, piece) }},
		{"one next behind the last one", last, func(kind byte, _, rest int, piece []byte) []byte { return written(kind, other[0], rest, piece) }},
		{"itself next behind the last one", last, func(kind byte, _, rest int, piece []byte) []byte { return written(kind, one[last], rest, piece) }},
		{"less left", 0, func(kind byte, next, rest int, piece []byte) []byte { return written(kind, next, rest-1, piece) }},
		{"more left", 0, func(kind byte, next, rest int, piece []byte) []byte { return written(kind, next, rest+1, piece) }},
		{"less left, of the second one", 1, func(kind byte, next, rest int, piece []byte) []byte { return written(kind, next, rest-1, piece) }},
		{"more left, of the second one", 1, func(kind byte, next, rest int, piece []byte) []byte { return written(kind, next, rest+1, piece) }},
		{"more left behind the last one", last, func(kind byte, next, rest int, piece []byte) []byte { return written(kind, next, rest+1, piece) }},
		{"nothing left", 0, func(kind byte, next, _ int, piece []byte) []byte { return written(kind, next, 0, piece) }},
		{"nothing left, of the second one", 1, func(kind byte, next, _ int, piece []byte) []byte { return written(kind, next, 0, piece) }},
		{"nothing left and none next, of the second one", 1, func(kind byte, _, _ int, piece []byte) []byte { return written(kind, 0, 0, piece) }},
		{"all that two bytes say left", 0, func(kind byte, next, _ int, piece []byte) []byte { return written(kind, next, 65535, piece) }},
		{"one that is not full", 0, func(kind byte, next, rest int, piece []byte) []byte {
			return written(kind, next, rest, piece[:full-1])
		}},
		{"one that is not full, though it says so much", 1, func(kind byte, next, rest int, piece []byte) []byte {
			return written(kind, next, rest+1, piece[:full-1])
		}},
		{"a longer last one", last, func(kind byte, next, rest int, piece []byte) []byte {
			return written(kind, next, rest, append(piece, 1))
		}},
		{"a shorter last one", last, func(kind byte, next, rest int, piece []byte) []byte {
			return written(kind, next, rest, piece[:len(piece)-1])
		}},
		{"no piece", last, func(kind byte, next, rest int, _ []byte) []byte { return written(kind, next, rest, nil) }},
		{"no piece on the first one", 0, func(kind byte, _, _ int, _ []byte) []byte { return written(kind, 0, 0, nil) }},
		{"a cell of one byte", 0, func(kind byte, next, _ int, _ []byte) []byte {
			p := page.New(kind)
			page.SetNext(p, next)
			page.Insert(p, 0, []byte{1})
			return p
		}},
		{"a cell of no bytes", 0, func(kind byte, next, _ int, _ []byte) []byte {
			p := page.New(kind)
			page.SetNext(p, next)
			page.Insert(p, 0, nil)
			return p
		}},
		{"no cell", 0, func(kind byte, next, _ int, _ []byte) []byte {
			p := page.New(kind)
			page.SetNext(p, next)
			return p
		}},
		{"two cells", last, func(kind byte, next, rest int, piece []byte) []byte {
			p := written(kind, next, rest, piece)
			page.Insert(p, 1, nil)
			return p
		}},
		{"bytes behind the cell", last, func(kind byte, next, rest int, piece []byte) []byte {
			p := written(kind, next, rest, piece)
			p[api.BlockSize-1] = 1
			return p
		}},
	} {
		t.Run(x.name, func(t *testing.T) {
			undone(t, b, func() {
				want(t, "Put", b.Put(one[x.at], x.bend(read(pageOf(t, b, one[x.at])))), api.OK)
				wantNoChain(t, b, one[0])
				wantChain(t, b, other[0], value(2000))
			})
		})
	}
	wantChain(t, b, one[0], value(2000))
}

// One page alone: what may be, and what may not.
func TestForgedSinglePages(t *testing.T) {
	b := book(t, 36)
	f := wantPut(t, b, value(1))
	anew(t, b)
	for n := 1; n <= full; n++ {
		undone(t, b, func() {
			want(t, "Put", b.Put(f, written(firstKind, 0, 0, value(n))), api.OK)
			wantChain(t, b, f, value(n))
		})
	}
	for _, p := range [][]byte{
		written(firstKind, f, 0, value(1)), written(firstKind, 0, 1, value(full)), written(firstKind, f, 1, value(full)),
		written(firstKind, f, full, value(full)), written(firstKind, f, 65535, value(full)), written(moreKind, 0, 0, value(1)),
	} {
		undone(t, b, func() {
			want(t, "Put", b.Put(f, p), api.OK)
			wantNoChain(t, b, f)
		})
	}
}

// A value has at most 65536 bytes, though pages could say more.
func TestForgedLength(t *testing.T) {
	for _, more := range []int{0, 1, 100} {
		b := book(t, 1200)
		f := wantPut(t, b, value(api.MaxText))
		anew(t, b)
		for _, number := range wayOf(t, b, f) {
			kind, next, rest, piece := read(pageOf(t, b, number))
			if next == 0 {
				piece = append(piece, make([]byte, more)...)
			} else {
				rest += more
			}
			want(t, "Put", b.Put(number, written(kind, next, rest, piece)), api.OK)
		}
		if more > 0 {
			wantNoChain(t, b, f)
			continue
		}
		wantChain(t, b, f, value(api.MaxText))
	}
}

// Whatever stands on a chain's pages: all calls end, nothing stands beside an error, and all tell the same.
func TestAnyBytes(t *testing.T) {
	b, one, other := long(t, 2000)
	pages := append(slices.Clone(one), other...)
	r := rand.New(rand.NewSource(17))
	seen := map[api.Errno]int{}
	for range 3000 {
		undone(t, b, func() {
			for range 1 + r.Intn(3) {
				bend(t, r, b, pages)
			}
			data, e := chain.Get(b, one[0])
			if e != api.OK {
				wantNoChain(t, b, one[0])
			} else {
				wantChain(t, b, one[0], data)
				wantDrop(t, b, one[0], api.OK)
			}
			seen[e]++
		})
	}
	if len(seen) != 2 || seen[api.OK] == 0 || seen[api.ErrShape] == 0 {
		t.Errorf("what was told: %v", seen)
	}
}

// bend changes one of some pages: bytes of it, or all, or what it says.
func bend(t *testing.T, r *rand.Rand, b *change.Book, pages []int) {
	t.Helper()
	number := pages[r.Intn(len(pages))]
	p := pageOf(t, b, number)
	switch r.Intn(5) {
	case 0:
		p[r.Intn(12)] ^= 1 << r.Intn(8)
	case 1:
		p[r.Intn(api.BlockSize)] = byte(r.Intn(256))
	case 2:
		p = pageOf(t, b, pages[r.Intn(len(pages))])
	case 3:
		page.SetNext(p, pages[r.Intn(len(pages))])
	case 4:
		if space.Give(b, number) != api.OK { // it was given back before
			return
		}
	}
	want(t, "Put", b.Put(number, p), api.OK)
}
