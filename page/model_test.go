package page_test

import (
	"bytes"
	"math/rand"
	"slices"
	"testing"

	"parchment/api"
	"parchment/page"
)

// sheet is the model: what a page says, in the chapter's words.
type sheet struct {
	kind  byte
	next  int
	cells [][]byte
}

// bytes is the page that says so, if its cells fit on one; else more than that.
func (b sheet) bytes() []byte {
	out := []byte{b.kind, byte(len(b.cells)), byte(b.next / (1 << 24)), byte(b.next / (1 << 16)), byte(b.next / (1 << 8)), byte(b.next)}
	for _, cell := range b.cells {
		out = append(out, byte(len(cell)/256), byte(len(cell)))
		out = append(out, cell...)
	}
	for len(out) < 512 {
		out = append(out, 0)
	}
	return out
}

func (b sheet) room() int {
	room := 506
	for _, cell := range b.cells {
		room -= 2 + len(cell)
	}
	return room
}

func (b sheet) copied() sheet {
	b.cells = slices.Clone(b.cells)
	return b
}

// modelRead reads what it can, and holds what it has read against the bytes: just a right page comes back.
func modelRead(p []byte) (sheet, bool) {
	if len(p) < 6 {
		return sheet{}, false
	}
	b := sheet{kind: p[0], next: int(p[2])*(1<<24) + int(p[3])*(1<<16) + int(p[4])*(1<<8) + int(p[5])}
	rest := p[6:]
	for range int(p[1]) {
		if len(rest) < 2 {
			return sheet{}, false
		}
		n := min(int(rest[0])*256+int(rest[1]), len(rest)-2)
		b.cells = append(b.cells, rest[2:2+n])
		rest = rest[2+n:]
	}
	return b, len(p) == 512 && bytes.Equal(b.bytes(), p)
}

// modelInsert is the sheet with a cell more, and what Insert answers.
func modelInsert(b sheet, slot int, cell []byte) (sheet, api.Errno) {
	if slot < 0 || slot > len(b.cells) {
		return b, api.ErrArg
	}
	if len(b.cells) == 255 || b.room() < len(cell)+2 {
		return b, api.ErrFull
	}
	b.cells = slices.Insert(slices.Clone(b.cells), slot, bytes.Clone(cell))
	return b, api.OK
}

func someCell(random *rand.Rand) []byte {
	longest := []int{1, 4, 20, 100, 520}[random.Intn(5)]
	cell := make([]byte, random.Intn(longest))
	if random.Intn(3) > 0 {
		random.Read(cell)
	}
	return cell
}

// P9.1, P9.2, P9.4: pages that are changed again and again stay as the model does.
func TestManyChanges(t *testing.T) {
	random := rand.New(rand.NewSource(9))
	inserted, refused, deleted := 0, 0, 0
	for round := range 300 {
		want := sheet{kind: byte(round)}
		p := page.New(byte(round))
		for range 100 {
			slot := random.Intn(len(want.cells)+3) - 1
			before := bytes.Clone(p)
			switch random.Intn(5) {
			case 0, 1, 2:
				cell := someCell(random)
				next, e := modelInsert(want, slot, cell)
				want = next
				wantInsert(t, p, slot, cell, e)
				if e == api.OK {
					inserted++
				} else {
					refused++
				}
			case 3:
				has := slot >= 0 && slot < len(want.cells)
				if page.Delete(p, slot) != has {
					t.Fatalf("Delete(%d) of %d cells is %v", slot, len(want.cells), !has)
				}
				if has {
					deleted++
					want = want.copied()
					want.cells = slices.Delete(want.cells, slot, slot+1)
				}
			case 4:
				next := int(random.Uint32())
				want.next = next
				if !page.SetNext(p, next) {
					t.Fatalf("SetNext(%d) is false", next)
				}
			}
			wantPage(t, p, want)
			wantAsWords(t, before, p)
		}
	}
	if inserted < 5000 || refused < 5000 || deleted < 2000 {
		t.Errorf("%d were inserted, %d refused, %d deleted", inserted, refused, deleted)
	}
}

// wantAsRead asks for all that is told of any bytes, as the model reads them.
func wantAsRead(t *testing.T, p []byte) bool {
	t.Helper()
	b, right := modelRead(p)
	if right {
		wantPage(t, p, b)
	} else {
		wantNoPage(t, p)
	}
	return right
}

// P9.1: right pages with a byte or some changed: right still, or not, as the model says.
func TestManyBentPages(t *testing.T) {
	random := rand.New(rand.NewSource(91))
	rights, wrongs := 0, 0
	for range 20000 {
		b := sheet{kind: byte(random.Intn(256)), next: random.Intn(1 << 20)}
		for range random.Intn(12) {
			b, _ = modelInsert(b, 0, someCell(random))
		}
		p := b.bytes()
		for range 1 + random.Intn(2) {
			switch random.Intn(5) {
			case 0:
				p[1] = byte(random.Intn(256))
			case 1:
				p[1] += byte(random.Intn(3))
			case 2:
				p[random.Intn(512)] = byte(random.Intn(256))
			case 3:
				p[6+random.Intn(20)] = byte(random.Intn(4))
			case 4:
				about := 512 - b.room() - 3 + random.Intn(6) // where the cells end
				p[min(about, 511)] ^= byte(random.Intn(3))
			}
		}
		if wantAsRead(t, p) {
			rights++
		} else {
			wrongs++
		}
	}
	if rights < 2000 || wrongs < 2000 {
		t.Errorf("%d were right, %d wrong", rights, wrongs)
	}
}

// R1, P9.1: bytes of all sorts and lengths about a page's.
func TestManyBytes(t *testing.T) {
	random := rand.New(rand.NewSource(92))
	for range 20000 {
		p := make([]byte, []int{512, 512, 512, 511, 513, random.Intn(1100)}[random.Intn(6)])
		random.Read(p)
		if random.Intn(2) == 0 {
			for i := range p {
				p[i] &= byte(random.Intn(4)) // sizes that are small
			}
		}
		if random.Intn(2) == 0 {
			clear(p[random.Intn(len(p)+1):])
		}
		wantAsRead(t, p)
	}
}

// wantAsWords holds Diff's spans against each word of P9.3, and against P9.4's last sentence.
func wantAsWords(t *testing.T, a, b []byte) {
	t.Helper()
	spans := page.Diff(a, b)
	made := bytes.Clone(a)
	end := -100 // behind the span ahead
	for _, s := range spans {
		to := s.Off + len(s.New)
		switch {
		case s.Block != 0 || len(s.New) == 0 || len(s.Old) != len(s.New) || s.Off < 0 || to > 512:
			t.Fatalf("%+v is no span", s)
		case !bytes.Equal(s.Old, a[s.Off:to]) || !bytes.Equal(s.New, b[s.Off:to]):
			t.Fatalf("%+v has other bytes", s)
		case a[s.Off] == b[s.Off] || a[to-1] == b[to-1]:
			t.Fatalf("%+v begins or ends where both are alike", s)
		case s.Off-end < 8:
			t.Fatalf("%+v: %d places lie ahead of it", s, s.Off-end)
		}
		alike := 0
		for i := s.Off; i < to; i++ {
			if alike++; a[i] != b[i] {
				alike = 0
			}
			if alike > 7 {
				t.Fatalf("%+v: both are alike at 8 places up to %d", s, i)
			}
		}
		copy(made[s.Off:], s.New)
		end = to
	}
	if !bytes.Equal(made, b) {
		t.Fatalf("the spans make % x; want % x", made, b)
	}
}

// P9.3, P9.4: pages that differ here and there.
func TestManyDiffs(t *testing.T) {
	random := rand.New(rand.NewSource(93))
	for range 20000 {
		a := make([]byte, 512)
		random.Read(a)
		b := bytes.Clone(a)
		at := random.Intn(30)
		far := []int{3, 9, 10, 20, 200}[random.Intn(5)]
		for at < 512 {
			b[at] += byte(1 + random.Intn(255))
			at += 1 + random.Intn(far)
		}
		wantAsWords(t, a, b)
		random.Read(b)
		wantAsWords(t, a, b)
	}
}
