// Package sheet is the pages that a book's space may hand out (chapter 14): for those that read what they have put there.
package sheet

import (
	"parchment/api"
	"parchment/change"
)

// mapBits is how many pages one page of the space's map tells of.
const mapBits = 8 * api.BlockSize

// Read is such a page as it is. The space's own pages are none, whatever their bytes look like.
func Read(b *change.Book, number int) ([]byte, api.Errno) {
	pages := b.Pages()
	own := 1 + (pages+mapBits-1)/mapBits
	if number < own || number >= pages {
		return nil, api.ErrShape
	}
	return b.Page(number)
}
