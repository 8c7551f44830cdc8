package page_test

import (
	"bytes"
	"math"
	"slices"
	"testing"

	"parchment/api"
	"parchment/page"
)

// The chapter's first example; the second one is in diff_test.go.
func TestExample(t *testing.T) {
	p := page.New(7)
	wantPage(t, p, sheet{kind: 7})
	if page.Kind(p) != 7 || page.Count(p) != 0 || page.Room(p) != 506 {
		t.Errorf("Kind %d, Count %d, Room %d", page.Kind(p), page.Count(p), page.Room(p))
	}
	wantInsert(t, p, 0, []byte("bc"), api.OK)
	wantInsert(t, p, 0, []byte("a"), api.OK)
	wantBytes(t, p, padded(7, 2, 0, 0, 0, 0, 0, 1, 'a', 0, 2, 'b', 'c'))
	wantCell(t, p, 1, []byte("bc"))
	if page.Room(p) != 499 {
		t.Errorf("Room %d", page.Room(p))
	}
	wantInsert(t, p, 3, nil, api.ErrArg)
	wantInsert(t, p, 3, make([]byte, 498), api.ErrArg)
	wantInsert(t, p, 2, make([]byte, 498), api.ErrFull)
	wantInsert(t, p, 2, make([]byte, 497), api.OK)
	if page.Room(p) != 0 {
		t.Errorf("Room %d", page.Room(p))
	}
}

// P9.1.

func TestNewOfEachKind(t *testing.T) {
	for kind := range 256 {
		p := page.New(byte(kind))
		wantBytes(t, p, padded(byte(kind)))
		wantPage(t, p, sheet{kind: byte(kind)})
	}
}

func TestWhatAPageHas(t *testing.T) {
	for _, b := range []sheet{
		{},
		{kind: 255, next: 1<<32 - 1},
		{kind: 1, next: 0x01020304, cells: rows("a")},
		{kind: 2, next: 1 << 24, cells: rows("")},
		{kind: 3, next: 1 << 16, cells: rows("", "")},
		{kind: 4, next: 1 << 8, cells: rows("a", "", "bc", "")},
		{kind: 5, next: 255, cells: rows("", "def", "")},
		{kind: 6, cells: [][]byte{{0}, {0, 0, 0}, {0, 1, 0}}}, // noughts of cells are no room
		{kind: 7, cells: [][]byte{some(255)}},
		{kind: 8, cells: [][]byte{some(256)}},
		{kind: 9, cells: [][]byte{some(257), some(1)}},
		{kind: 10, cells: [][]byte{some(1), some(300), some(2)}},
		{kind: 11, cells: [][]byte{some(503)}},
		{kind: 12, cells: [][]byte{some(504)}},
		{kind: 13, cells: [][]byte{make([]byte, 504)}},
		{kind: 14, cells: [][]byte{some(200), some(300), nil}},
		{kind: 15, cells: [][]byte{nil, some(502)}},
		{kind: 16, cells: make([][]byte, 252)},
		{kind: 17, cells: make([][]byte, 253)},
		{kind: 18, cells: slices.Repeat([][]byte{{9}}, 168)},
	} {
		wantPage(t, b.bytes(), b)
	}
}

// What is written out here does not hang on the model.
func TestWhatBytesSay(t *testing.T) {
	p := padded(200, 3, 1, 2, 3, 4, 0, 2, 8, 9, 0, 0, 0, 1, 0)
	if !page.Check(p) || page.Kind(p) != 200 || page.Next(p) != 16909060 || page.Count(p) != 3 || page.Room(p) != 497 {
		t.Errorf("%v, kind %d, next %d, count %d, room %d", page.Check(p), page.Kind(p), page.Next(p), page.Count(p), page.Room(p))
	}
	wantCell(t, p, 0, []byte{8, 9})
	wantCell(t, p, 1, nil)
	wantCell(t, p, 2, []byte{0})
	wantNoCell(t, p, 3)
	long := padded(0, 1, 255, 255, 255, 255, 1, 3, 7)
	if !page.Check(long) || page.Next(long) != 4294967295 || page.Count(long) != 1 || page.Room(long) != 506-261 {
		t.Errorf("%v, next %d, count %d, room %d", page.Check(long), page.Next(long), page.Count(long), page.Room(long))
	}
	wantCell(t, long, 0, append([]byte{7}, make([]byte, 258)...))
}

func TestNoPageOfAnotherLength(t *testing.T) {
	wantNoPage(t, nil)
	for _, n := range []int{0, 1, 5, 6, 7, 64, 256, 510, 511, 513, 514, 1023, 1024, 1 << 16} {
		wantNoPage(t, make([]byte, n))
		b := make([]byte, max(n, 8))
		copy(b, []byte{7, 1, 0, 0, 0, 1, 0, 0})
		wantNoPage(t, b[:n])
	}
	// Spare room is none of the page's bytes.
	wantNoPage(t, make([]byte, 511, 512))
	wantNoPage(t, make([]byte, 0, 512))
	wantPage(t, make([]byte, 512, 2048), sheet{})
}

// Noughts are as many empty cells as there is room for: 253.
func TestCountsOfNoughts(t *testing.T) {
	for n := range 256 {
		p := padded(1, byte(n))
		if n <= 253 {
			wantPage(t, p, sheet{kind: 1, cells: make([][]byte, n)})
		} else {
			wantNoPage(t, p)
		}
	}
}

func TestCellsThatGoBeyond(t *testing.T) {
	for n := range 1 << 16 {
		p := padded(1, 1, 0, 0, 0, 0, byte(n>>8), byte(n))
		if right := n <= 504; page.Check(p) != right || page.Count(p) != map[bool]int{true: 1}[right] {
			t.Errorf("a cell of %d bytes: %v, %d cells", n, page.Check(p), page.Count(p))
		}
	}
	for _, n := range []int{505, 506, 512, 1 << 15, 1<<16 - 1} {
		wantNoPage(t, padded(1, 1, 0, 0, 0, 0, byte(n>>8), byte(n)))
	}
	// Behind a cell that ends where the page does, a byte or two ahead of that, there is no other one, or an empty one.
	for left := range 4 {
		n := 504 - left
		p := padded(1, 2, 0, 0, 0, 0, byte(n>>8), byte(n))
		if left < 2 {
			wantNoPage(t, p)
		} else {
			wantPage(t, p, sheet{kind: 1, cells: [][]byte{make([]byte, n), nil}})
		}
	}
	// The second cell's first size byte is the page's last one.
	p := padded(1, 2, 0, 0, 0, 0, 1, 247)
	p[511] = 1
	wantNoPage(t, p)
	// The second cell goes beyond by one byte.
	p = padded(1, 2, 0, 0, 0, 0, 1, 240)
	p[505] = 7
	wantNoPage(t, p)
	p[505] = 6
	p[511] = 9
	wantPage(t, p, sheet{kind: 1, cells: [][]byte{p[8:504], p[506:]}})
}

func TestBytesBehindTheCells(t *testing.T) {
	for _, b := range []sheet{{}, {kind: 7, next: 5, cells: rows("a", "", "bcd")}, {cells: [][]byte{some(500)}}} {
		right := b.bytes()
		for i := 512 - b.room(); i < 512; i++ {
			for _, c := range []byte{1, 128, 255} {
				p := bytes.Clone(right)
				p[i] = c
				wantNoPage(t, p)
			}
		}
	}
}

func TestNoSuchSlot(t *testing.T) {
	for _, b := range []sheet{{}, {cells: rows("")}, {cells: rows("a", "b")}, {cells: make([][]byte, 253)}} {
		p := b.bytes()
		for _, slot := range []int{math.MinInt, -256, -1, len(b.cells), len(b.cells) + 1, 255, 256, 257, 1 << 32, math.MaxInt} {
			wantNoCell(t, p, slot)
			wantNoDelete(t, p, slot)
		}
		for _, slot := range []int{math.MinInt, -256, -1, len(b.cells) + 1, 255, 256, 257, 1 << 32, math.MaxInt} {
			wantInsert(t, p, slot, nil, api.ErrArg)
		}
	}
}

// P9.2.

func TestSetNext(t *testing.T) {
	cells := rows("a", "", "bcd")
	p := sheet{kind: 9, next: 77, cells: cells}.bytes()
	for _, next := range []int{0, 1, 255, 256, 65535, 65536, 1<<24 - 1, 1 << 24, 0x01020304, 1<<31 - 1, 1 << 31, 1<<32 - 2, 1<<32 - 1, 0} {
		if !page.SetNext(p, next) {
			t.Errorf("SetNext(%d) is false", next)
		}
		wantPage(t, p, sheet{kind: 9, next: next, cells: cells})
		for _, wrong := range []int{math.MinInt, -1 << 32, -1, 1 << 32, 1<<32 + 1, 1 << 40, math.MaxInt} {
			wantNoSetNext(t, p, wrong)
		}
	}
	page.SetNext(p, 0x0a0b0c0d)
	wantBytes(t, p[:6], []byte{9, 3, 10, 11, 12, 13})
}

func TestInsertAtEachSlot(t *testing.T) {
	for _, cells := range [][][]byte{nil, rows(""), rows("a"), rows("ab", "c", "", "def", "", "g"), {some(200), some(100), some(50)}, make([][]byte, 100)} {
		for _, cell := range [][]byte{nil, {}, {0}, []byte("x"), make([]byte, 7), some(40), some(255 - 110)} {
			for slot := range len(cells) + 1 {
				p := sheet{kind: 3, next: 4, cells: cells}.bytes()
				wantInsert(t, p, slot, cell, api.OK)
				wantPage(t, p, sheet{kind: 3, next: 4, cells: slices.Insert(slices.Clone(cells), slot, cell)})
			}
		}
	}
}

func TestInsertLongCells(t *testing.T) {
	for _, n := range []int{254, 255, 256, 257, 400, 503, 504} {
		p := page.New(1)
		wantInsert(t, p, 0, some(n), api.OK)
		wantPage(t, p, sheet{kind: 1, cells: [][]byte{some(n)}})
	}
	for _, n := range []int{505, 506, 510, 511, 512, 513, 1 << 16, 1<<16 + 1, 1 << 20} {
		wantInsert(t, page.New(1), 0, make([]byte, n), api.ErrFull)
	}
}

// A cell goes in as long as it and its two bytes have room, at whichever slot.
func TestInsertTillThereIsNoRoom(t *testing.T) {
	for room := range 507 {
		if room == 505 { // a cell takes two bytes at least
			continue
		}
		cells := filling(room)
		right := sheet{kind: 1, cells: cells}.bytes()
		if page.Room(right) != room {
			t.Fatalf("Room %d; want %d", page.Room(right), room)
		}
		for _, slot := range []int{0, len(cells) / 2, len(cells)} {
			for n := max(room-4, 0); n < room+3; n++ {
				p := bytes.Clone(right)
				if n+2 > room {
					wantInsert(t, p, slot, some(n), api.ErrFull)
					continue
				}
				wantInsert(t, p, slot, some(n), api.OK)
				wantPage(t, p, sheet{kind: 1, cells: slices.Insert(slices.Clone(cells), slot, some(n))})
			}
		}
	}
}

// filling is cells that leave so much room: an empty one, if there may be one, and another one.
func filling(room int) [][]byte {
	switch taken := 506 - room; {
	case taken == 0:
		return nil
	case taken < 4:
		return [][]byte{some(taken - 2)}
	default:
		return [][]byte{nil, some(taken - 4)}
	}
}

func TestInsertAsManyAsThereMayBe(t *testing.T) {
	p := page.New(2)
	for n := range 253 {
		if n != page.Count(p) || page.Room(p) != 506-2*n {
			t.Fatalf("%d cells were put: Count %d, Room %d", n, page.Count(p), page.Room(p))
		}
		wantInsert(t, p, n/2, nil, api.OK)
	}
	wantPage(t, p, sheet{kind: 2, cells: make([][]byte, 253)})
	for _, slot := range []int{0, 100, 253} {
		wantInsert(t, p, slot, nil, api.ErrFull)
		wantInsert(t, p, slot, []byte{0}, api.ErrFull)
	}
	wantInsert(t, p, 254, nil, api.ErrArg)
}

// Of several errors the one named first counts.
func TestOrderOfErrors(t *testing.T) {
	wrong := padded(7, 1, 0, 0, 0, 0, 255, 255)
	for _, slot := range []int{-1, 0, 1, 2, 300} {
		for _, cell := range [][]byte{nil, make([]byte, 600)} {
			wantInsert(t, wrong, slot, cell, api.ErrShape)
			wantInsert(t, nil, slot, cell, api.ErrShape)
		}
	}
	full := sheet{kind: 7, cells: [][]byte{some(504)}}.bytes()
	for _, slot := range []int{-1, 2} {
		wantInsert(t, full, slot, nil, api.ErrArg)
		wantInsert(t, full, slot, make([]byte, 600), api.ErrArg)
	}
	wantInsert(t, full, 0, nil, api.ErrFull)
	wantInsert(t, full, 1, nil, api.ErrFull)
}

// A cell may be bytes of the page that it is put on: what it was at the call is put.
func TestInsertBytesOfThePageItself(t *testing.T) {
	cells := rows("abc", "", "defgh", "i")
	for from := range 40 {
		for to := from; to <= 40; to++ {
			for slot := range 5 {
				p := sheet{kind: 1, next: 2, cells: cells}.bytes()
				cell := bytes.Clone(p[from:to])
				if e := page.Insert(p, slot, p[from:to]); e != api.OK {
					t.Fatalf("Insert of the bytes %d to %d: %v", from, to, e)
				}
				wantPage(t, p, sheet{kind: 1, next: 2, cells: slices.Insert(slices.Clone(cells), slot, cell)})
			}
		}
	}
}

func TestDeleteAtEachSlot(t *testing.T) {
	for _, cells := range [][][]byte{
		rows(""), rows("a"), rows("ab", "c", "", "def", "", "g"), {some(200), some(100), some(50)}, {some(504)}, {nil, some(502)}, {some(502), nil},
		{some(300), some(202)}, make([][]byte, 253), slices.Repeat([][]byte{{255}}, 168),
	} {
		for slot := range cells {
			p := sheet{kind: 3, next: 4, cells: cells}.bytes()
			if !page.Delete(p, slot) {
				t.Errorf("Delete(%d) of %d is false", slot, len(cells))
			}
			wantPage(t, p, sheet{kind: 3, next: 4, cells: slices.Delete(slices.Clone(cells), slot, slot+1)})
		}
	}
}

func TestDeleteAll(t *testing.T) {
	for _, last := range []bool{true, false} {
		p := sheet{kind: 5, next: 6, cells: slices.Repeat(rows("abc", "", "d"), 40)}.bytes()
		for n := 120; n > 0; n-- {
			slot := 0
			if last {
				slot = n - 1
			}
			if page.Count(p) != n || !page.Delete(p, slot) {
				t.Fatalf("%d are to be there: Count %d", n, page.Count(p))
			}
		}
		wantNoDelete(t, p, 0)
		wantBytes(t, p, padded(5, 0, 0, 0, 0, 6))
	}
}

// P9.4, cell by cell: a cell that was put and taken out again leaves the page as it was.
func TestInsertAndDelete(t *testing.T) {
	cells := rows("ab", "", "c", "def")
	for slot := range len(cells) + 1 {
		for n := range 490 {
			p := sheet{kind: 1, next: 9, cells: cells}.bytes()
			before := bytes.Clone(p)
			wantInsert(t, p, slot, some(n), api.OK)
			wantCell(t, p, slot, some(n))
			if !page.Delete(p, slot) {
				t.Errorf("Delete(%d) is false", slot)
			}
			wantBytes(t, p, before)
		}
	}
}

// R3: of a page just its own bytes are changed, of a cell none; spare room of neither.
func TestSpareRoomStays(t *testing.T) {
	room := bytes.Repeat([]byte{0xa5}, 2048)
	p := room[512:1024]
	copy(p, sheet{kind: 1, cells: rows("a", "bc")}.bytes())
	cellRoom := bytes.Repeat([]byte{0x77}, 300)
	cell := cellRoom[100:200]
	for slot := range 3 {
		wantInsert(t, p, slot, cell, api.OK)
		page.SetNext(p, 99+slot)
		page.Delete(p, 0)
	}
	wantInsert(t, p, 0, make([]byte, page.Room(p)-2, 4096), api.OK)
	for range page.Count(p) {
		page.Delete(p, 0)
	}
	wantInsert(t, p, 0, cellRoom, api.OK)
	wantBytes(t, cellRoom, bytes.Repeat([]byte{0x77}, 300))
	wantBytes(t, room[:512], bytes.Repeat([]byte{0xa5}, 512))
	wantBytes(t, room[1024:], bytes.Repeat([]byte{0xa5}, 1024))
}

// R3: a cell is not kept, and what is got is new.
func TestCellsAreCopied(t *testing.T) {
	p := page.New(4)
	cell := []byte("abc")
	wantInsert(t, p, 0, cell, api.OK)
	wantInsert(t, p, 1, []byte("de"), api.OK)
	before := bytes.Clone(p)
	scribble(cell)
	wantBytes(t, p, before)
	first, _ := page.Get(p, 0)
	again, _ := page.Get(p, 0)
	other, _ := page.Get(p, 1)
	scribble(first)
	wantBytes(t, p, before)
	wantBytes(t, again, []byte("abc"))
	scribble(again)
	wantBytes(t, other, []byte("de"))
	scribble(other)
	wantBytes(t, p, before)
	got, _ := page.Get(p, 0)
	scribble(p)
	wantBytes(t, got, []byte("abc"))
}

func TestPagesAreNew(t *testing.T) {
	first, second := page.New(1), page.New(1)
	scribble(first)
	wantBytes(t, second, padded(1))
	wantBytes(t, page.New(1), padded(1))
}

// R3: what only asks changes nothing.
func TestAskingChangesNothing(t *testing.T) {
	for _, right := range [][]byte{sheet{kind: 1, next: 2, cells: rows("a", "", "bc")}.bytes(), padded(1, 1, 0, 0, 0, 0, 255, 255), some(512), some(100)} {
		room := append(bytes.Clone(right), some(100)...)
		before := bytes.Clone(room)
		p := room[:len(right)]
		page.Check(p)
		page.Kind(p)
		page.Next(p)
		page.Count(p)
		page.Room(p)
		page.Get(p, 0)
		page.Get(p, 2)
		page.Diff(p, make([]byte, 512))
		page.Diff(make([]byte, 512), p)
		wantBytes(t, room, before)
	}
}

// R4: an answer hangs on the bytes alone: calls beside it count nothing.
func TestPagesAreOfThemselves(t *testing.T) {
	p := sheet{kind: 1, cells: rows("a", "b")}.bytes()
	other := bytes.Clone(p)
	page.Delete(other, 0)
	page.Insert(other, 0, []byte("xyz"))
	page.SetNext(other, 5)
	wantPage(t, p, sheet{kind: 1, cells: rows("a", "b")})
	wantPage(t, other, sheet{kind: 1, next: 5, cells: rows("xyz", "b")})
}

// padded is a page's bytes that begin so, noughts behind.
func padded(b ...byte) []byte {
	return append(b, make([]byte, 512-len(b))...)
}

// some is so many bytes, the last of which are not noughts.
func some(n int) []byte {
	out := make([]byte, n)
	for i := range out {
		out[i] = byte(251 - i%250)
	}
	return out
}

func rows(texts ...string) [][]byte {
	var out [][]byte
	for _, s := range texts {
		out = append(out, []byte(s))
	}
	return out
}

// scribble writes over bytes and their spare room.
func scribble(b []byte) {
	b = b[:cap(b)]
	for i := range b {
		b[i] ^= 0x5a
	}
}

// short is bytes as they are told: some of them, without the noughts at their end.
func short(b []byte) []byte {
	return bytes.TrimRight(b[:min(len(b), 40)], "\x00")
}

func wantBytes(t *testing.T, got, want []byte) {
	t.Helper()
	if !bytes.Equal(got, want) {
		t.Errorf("% x; want % x", short(got), short(want))
	}
}

func wantCell(t *testing.T, p []byte, slot int, want []byte) {
	t.Helper()
	if cell, ok := page.Get(p, slot); !ok || !bytes.Equal(cell, want) {
		t.Errorf("Get(%d) = % x, %v; want % x", slot, short(cell), ok, short(want))
	}
}

func wantNoCell(t *testing.T, p []byte, slot int) {
	t.Helper()
	if cell, ok := page.Get(p, slot); ok || len(cell) != 0 {
		t.Errorf("Get(%d) = % x, %v; want none", slot, short(cell), ok)
	}
}

// wantInsert asks for an Insert's answer; where that is an error, nothing may have changed.
func wantInsert(t *testing.T, p []byte, slot int, cell []byte, want api.Errno) {
	t.Helper()
	before := bytes.Clone(p)
	if e := page.Insert(p, slot, cell); e != want {
		t.Errorf("Insert(%d, %d bytes) = %d; want %d", slot, len(cell), e, want)
	}
	if want != api.OK && !bytes.Equal(p, before) {
		t.Errorf("Insert(%d, %d bytes) was refused, and the page has changed", slot, len(cell))
	}
}

func wantNoDelete(t *testing.T, p []byte, slot int) {
	t.Helper()
	before := bytes.Clone(p)
	if page.Delete(p, slot) || !bytes.Equal(p, before) {
		t.Errorf("Delete(%d) is done; want nothing", slot)
	}
}

func wantNoSetNext(t *testing.T, p []byte, next int) {
	t.Helper()
	before := bytes.Clone(p)
	if page.SetNext(p, next) || !bytes.Equal(p, before) {
		t.Errorf("SetNext(%d) is done; want nothing", next)
	}
}

// wantPage asks for all that is told of a right page.
func wantPage(t *testing.T, p []byte, want sheet) {
	t.Helper()
	if !bytes.Equal(p, want.bytes()) {
		t.Errorf("% x; want % x", short(p), short(want.bytes()))
	}
	if !page.Check(p) || page.Kind(p) != want.kind || page.Next(p) != want.next || page.Count(p) != len(want.cells) || page.Room(p) != want.room() {
		t.Errorf("% x: %v, kind %d, next %d, count %d, room %d", short(p), page.Check(p), page.Kind(p), page.Next(p), page.Count(p), page.Room(p))
	}
	for slot, cell := range want.cells {
		wantCell(t, p, slot, cell)
	}
	wantNoCell(t, p, -1)
	wantNoCell(t, p, len(want.cells))
}

// wantNoPage asks for what is told of bytes that are no right page: nothing, nor are they changed.
func wantNoPage(t *testing.T, p []byte) {
	t.Helper()
	if page.Check(p) || page.Kind(p) != 0 || page.Next(p) != 0 || page.Count(p) != 0 || page.Room(p) != 0 {
		t.Errorf("% x: %v, kind %d, next %d, count %d, room %d; want no page", short(p), page.Check(p), page.Kind(p), page.Next(p), page.Count(p), page.Room(p))
	}
	for _, slot := range []int{-1, 0, 1, 255, math.MaxInt} {
		wantNoCell(t, p, slot)
		wantNoDelete(t, p, slot)
		wantInsert(t, p, slot, []byte("a"), api.ErrShape)
		wantInsert(t, p, slot, nil, api.ErrShape)
	}
	wantNoSetNext(t, p, 0)
	wantNoSetNext(t, p, 1)
}
