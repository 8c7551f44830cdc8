package chain

import (
	"iter"

	"parchment/api"
	"parchment/change"
	"parchment/sheet"
	"parchment/space"
)

// links goes through a chain's, from its first page on. An error is the last thing that it tells. Each has less of the value than the one ahead of it: so no page comes twice, and each way ends.
func links(b *change.Book, first int) iter.Seq2[link, api.Errno] {
	return func(yield func(link, api.Errno) bool) {
		if first == 0 {
			return
		}
		l, e := load(b, first, firstKind)
		for e == api.OK {
			if !yield(l, api.OK) || l.rest == 0 {
				return
			}
			l, e = l.behind(b)
		}
		yield(link{}, e)
	}
}

// behind is the link that follows one.
func (l link) behind(b *change.Book) (link, api.Errno) {
	n, e := load(b, l.next, moreKind)
	if e == api.OK && n.all() != l.rest {
		return link{}, api.ErrShape
	}
	return n, e
}

// load is the link of a kind that stands on a page, which must be taken.
func load(b *change.Book, number int, kind byte) (link, api.Errno) {
	p, e := sheet.Read(b, number)
	if e != api.OK {
		return link{}, e
	}
	is, e := space.Taken(b, number)
	if e != api.OK {
		return link{}, e
	}
	l, right := parse(p)
	if !is || !right || l.kind != kind {
		return link{}, api.ErrShape
	}
	l.page = number
	return l, api.OK
}

// taken are so many pages, each of which is taken for a chain.
func taken(b *change.Book, many int) ([]int, api.Errno) {
	var out []int
	for range many {
		number, e := space.Take(b)
		if e != api.OK {
			return nil, e
		}
		out = append(out, number)
	}
	return out, api.OK
}
