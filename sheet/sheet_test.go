package sheet_test

import (
	"bytes"
	"math"
	"testing"

	"parchment/api"
	"parchment/change"
	"parchment/device"
	"parchment/restore"
	"parchment/sheet"
	"parchment/space"
)

// book is one of so many pages, with a space, in a transaction.
func book(t *testing.T, pages int) *change.Book {
	t.Helper()
	d := device.New(2 * (pages + 2))
	change.Format(d)
	b, _, e := restore.Open(d, 8)
	if e != api.OK || b.Begin() != api.OK || space.Format(b) != api.OK {
		t.Fatalf("no book of %d pages: %d", pages, e)
	}
	return b
}

// Just those pages are read that the space's Take may tell.
func TestRead(t *testing.T) {
	for _, pages := range []int{10, 36, 4095, 4096, 4097, 8192, 8193} {
		b := book(t, pages)
		lowest, e := space.Take(b)
		if e != api.OK {
			t.Fatalf("Take = %d", e)
		}
		for page := range pages {
			data, e := sheet.Read(b, page)
			if page < lowest {
				if len(data) > 0 || e != api.ErrShape {
					t.Fatalf("Read(%d) of %d pages = %d bytes, %d", page, pages, len(data), e)
				}
				continue
			}
			if want, _ := b.Page(page); e != api.OK || !bytes.Equal(data, want) {
				t.Fatalf("Read(%d) of %d pages = %d bytes, %d", page, pages, len(data), e)
			}
		}
		for _, page := range []int{-1, pages, pages + 1, 65536, 1<<32 + lowest, math.MinInt, math.MaxInt} {
			if data, e := sheet.Read(b, page); len(data) > 0 || e != api.ErrShape {
				t.Fatalf("Read(%d) of %d pages = %d bytes, %d", page, pages, len(data), e)
			}
		}
	}
}

func TestReadOfNoBook(t *testing.T) {
	for _, b := range []*change.Book{nil, {}} {
		for page := range 4 {
			if data, e := sheet.Read(b, page); len(data) > 0 || e == api.OK {
				t.Errorf("Read(%d) = %d bytes, %d", page, len(data), e)
			}
		}
	}
}

// An error of the book is told.
func TestReadOfADeviceThatIsDown(t *testing.T) {
	d := device.New(76)
	change.Format(d)
	b, _, _ := restore.Open(d, 8)
	d.Arm(1)
	d.Sync()
	if data, e := sheet.Read(b, 20); len(data) > 0 || e != api.ErrDown {
		t.Errorf("Read = %d bytes, %d", len(data), e)
	}
	if data, e := sheet.Read(b, 1); len(data) > 0 || e != api.ErrShape {
		t.Errorf("Read = %d bytes, %d", len(data), e)
	}
}
