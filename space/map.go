package space

import (
	"parchment/api"
	"parchment/change"
)

// The map has a bit for each page, set if that is taken. Those behind the last page's are left as they are, and never looked at: so a small log has room for a Format, whatever stood on the pages.
const (
	firstMap = 1                 // the map's first page
	pageBits = 8 * api.BlockSize // of one page of the map
	allTaken = 255               // eight pages' bits
)

// own is how many pages of so many are a space's own: the head and the map.
func own(pages int) int {
	return firstMap + (pages+pageBits-1)/pageBits
}

// fits is whether a space of so many pages has others than its own.
func fits(pages int) bool {
	return pages > own(pages)
}

// place is where a page's bit stands: on which page of the map, in which of its bytes, as which bit of it.
func place(page int) (onMap, at int, bit byte) {
	return firstMap + page/pageBits, page % pageBits / 8, 1 << (page % 8)
}

// layMap makes the map one in which none but the space's own pages are taken.
func layMap(b *change.Book) api.Errno {
	pages := b.Pages()
	for first := 0; first < pages; first += pageBits {
		onMap, _, _ := place(first)
		m, e := b.Page(onMap)
		if e != api.OK {
			return e
		}
		for page := first; page < min(first+pageBits, pages); page++ {
			_, at, bit := place(page)
			m[at] &^= bit
			if page < own(pages) {
				m[at] |= bit
			}
		}
		if e := b.Put(onMap, m); e != api.OK {
			return e
		}
	}
	return api.OK
}

// marked is whether a page's bit is set.
func marked(b *change.Book, page int) (bool, api.Errno) {
	onMap, at, bit := place(page)
	m, e := b.Page(onMap)
	if e != api.OK {
		return false, e
	}
	return m[at]&bit != 0, api.OK
}

// remap makes the eight bits among which a page's stands what do tells of them.
func remap(b *change.Book, page int, do func(eight, bit byte) byte) api.Errno {
	onMap, at, bit := place(page)
	m, e := b.Page(onMap)
	if e != api.OK {
		return e
	}
	m[at] = do(m[at], bit)
	return b.Put(onMap, m)
}

// eachFree does something with each free page, from the lowest one on, till do says that there need be no more.
func eachFree(b *change.Book, do func(page int) bool) api.Errno {
	pages := b.Pages()
maps:
	for first := 0; first < pages; first += pageBits {
		onMap, _, _ := place(first)
		m, e := b.Page(onMap)
		if e != api.OK {
			return e
		}
		for at, eight := range m {
			if eight == allTaken {
				continue
			}
			for i := range 8 {
				page := first + 8*at + i
				if page >= pages {
					break maps
				}
				if eight>>i&1 == 0 && !do(page) {
					break maps
				}
			}
		}
	}
	return api.OK
}

// lowest is the lowest free page.
func lowest(b *change.Book) (int, api.Errno) {
	found := headPage // which is never free
	e := eachFree(b, func(page int) bool {
		found = page
		return false
	})
	if e != api.OK {
		return 0, e
	}
	if found == headPage {
		return 0, api.ErrFull
	}
	return found, api.OK
}
