package chain

import (
	"parchment/api"
	"parchment/page"
)

// A page's kind says that a chain begins there, or goes on.
const (
	firstKind byte = 64
	moreKind  byte = 65
)

// A page has one cell: how many bytes of the value the pages behind it have, the higher byte first; then its own piece of the value.
const (
	restSize = 2
	most     = 502 // bytes of a piece: a page has room for 506 (chapter 9), two of which say how long its cell is
)

// link is what stands on a page of a chain. That it says how much of the value is left lets each page be held against the one ahead of it, and no way go round.
type link struct {
	page  int
	kind  byte
	next  int // 0: it is the last one
	rest  int
	piece []byte
}

// all is how much of the value a link and those behind it have.
func (l link) all() int {
	return len(l.piece) + l.rest
}

// laid are the links of a value over as many pages as it needs.
func laid(data []byte, pages []int) []link {
	out := make([]link, len(pages))
	for i, number := range pages {
		size := min(most, len(data))
		out[i] = link{page: number, kind: moreKind, rest: len(data) - size, piece: data[:size]}
		if i > 0 {
			out[i-1].next = number
		}
		data = data[size:]
	}
	out[0].kind = firstKind
	return out
}

// bytes are its page's.
func (l link) bytes() []byte {
	p := page.New(l.kind)
	page.SetNext(p, l.next)
	page.Insert(p, 0, append([]byte{byte(l.rest >> 8), byte(l.rest)}, l.piece...))
	return p
}

// parse is a page's link, of whatever kind, if its bytes are one's.
func parse(p []byte) (link, bool) {
	cell, _ := page.Get(p, 0)
	if page.Count(p) != 1 || len(cell) <= restSize {
		return link{}, false
	}
	l := link{kind: page.Kind(p), next: page.Next(p), rest: int(cell[0])<<8 | int(cell[1]), piece: cell[restSize:]}
	return l, l.right()
}

// right is whether it may stand on a page, as far as the page alone tells: only the last one need not be full.
func (l link) right() bool {
	if l.rest == 0 {
		return l.next == 0
	}
	return len(l.piece) == most && l.all() <= api.MaxText
}
