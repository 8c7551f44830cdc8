package space

import "testing"

// No book has so few pages that Format is told ErrFull for it, nor as many as the limits name: what it goes by is asked by itself.
func TestOwn(t *testing.T) {
	for _, c := range []struct {
		pages, own int
		fits       bool
	}{
		{1, 2, false}, {2, 2, false}, {3, 2, true}, {10, 2, true},
		{4095, 2, true}, {4096, 2, true}, {4097, 3, true}, {8192, 3, true}, {8193, 4, true},
		{32766, 9, true}, {61440, 16, true}, {61441, 17, true}, {65535, 17, true}, {65536, 17, true},
	} {
		if n := own(c.pages); n != c.own || fits(c.pages) != c.fits {
			t.Errorf("of %d pages %d are its own, and it fits: %v; want %d, %v", c.pages, n, fits(c.pages), c.own, c.fits)
		}
	}
}

// Each page has a bit of its own, within the map.
func TestPlaces(t *testing.T) {
	type spot struct {
		onMap, at int
		bit       byte
	}
	seen := map[spot]int{}
	for page := range 65536 {
		onMap, at, bit := place(page)
		if onMap < 1 || onMap >= own(page+1) || at < 0 || at >= 512 || bit == 0 || bit&(bit-1) != 0 {
			t.Fatalf("page %d: %d, %d, %d", page, onMap, at, bit)
		}
		seen[spot{onMap, at, bit}]++
	}
	if len(seen) != 65536 {
		t.Errorf("%d bits", len(seen))
	}
}
