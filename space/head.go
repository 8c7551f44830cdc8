package space

import (
	"bytes"

	"parchment/api"
	"parchment/change"
)

// headPage is the page that tells a space from other pages, and has its roots.
const headPage = 0

const roots = 8

// What stands on the head's page: a mark, how many pages the space has, the roots; behind them noughts.
const (
	mark       = "PS01"
	pagesAt    = len(mark)
	rootsAt    = pagesAt + numberSize
	numberSize = 4
)

func rootAt(which int) int {
	return rootsAt + which*numberSize
}

// newHead is the head of a space of so many pages whose roots are 0.
func newHead(pages int) []byte {
	h := make([]byte, api.BlockSize)
	copy(h, mark)
	putNumber(h, pagesAt, pages)
	return h
}

// head is the head of a book's space.
func head(b *change.Book) ([]byte, api.Errno) {
	h, e := b.Page(headPage)
	if e != api.OK {
		return nil, e
	}
	if !isHead(h, b.Pages()) {
		return nil, api.ErrShape
	}
	return h, api.OK
}

// isHead is whether a page is as newHead makes it, but for roots that were set since.
func isHead(h []byte, pages int) bool {
	want := newHead(pages)
	for which := range roots {
		root := number(h, rootAt(which))
		if root >= pages {
			return false
		}
		putNumber(want, rootAt(which), root)
	}
	return bytes.Equal(h, want)
}

func number(h []byte, at int) int {
	n := 0
	for _, x := range h[at : at+numberSize] {
		n = n<<8 | int(x)
	}
	return n
}

func putNumber(h []byte, at, n int) {
	for i := range numberSize {
		h[at+i] = byte(n >> (8 * (numberSize - 1 - i)))
	}
}
