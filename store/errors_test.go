package store_test

import (
	"bytes"
	"fmt"
	"math"
	"reflect"
	"slices"
	"strings"
	"testing"

	"parchment/api"
	"parchment/btree"
	"parchment/change"
	"parchment/names"
	"parchment/space"
	"parchment/store"
)

// ErrShape.

func TestNoSpace(t *testing.T) {
	s := bare(t, 36)
	s.wantNothing(t, func() {
		want(t, "Format", store.Format(s.b), api.ErrShape)
		wantNothingKnown(t, s.b, api.ErrShape)
	})
	// A store is of the space, and there is none without it.
	s = loaded(t, 300, small())
	want(t, "Put", s.b.Put(0, of(0)), api.OK)
	s.wantNothing(t, func() { wantNothingKnown(t, s.b, api.ErrShape) })
}

func TestNotFormatted(t *testing.T) {
	for _, pages := range []int{10, 36, 4097} {
		for _, hasNames := range []bool{false, true} {
			s := shelved(t, pages)
			if hasNames {
				want(t, "names.Format", names.Format(s.b), api.OK)
			}
			s.wantNothing(t, func() {
				wantNothingKnown(t, s.b, api.ErrShape)
				wantNoRange(t, s.b, nil, nil, 0, api.ErrShape)
			})
			want(t, "Commit", s.b.Commit(), api.OK)
			wantNoGet(t, s.b, nil, api.ErrShape)
			wantNoRange(t, s.b, nil, nil, 1, api.ErrShape)
			wantNoTree(t, s.b, api.ErrShape)
		}
	}
}

// Where the root is none, there is no store.
func TestRootsThatAreNone(t *testing.T) {
	s := loaded(t, 300, small())
	page := taken(t, s.b)
	want(t, "Put", s.b.Put(page, of(255)), api.OK)
	anew(t, s.b)
	for _, root := range []int{0, 1, page, page + 1, 299} {
		undone(t, s.b, func() {
			want(t, "SetRoot", space.SetRoot(s.b, 5, root), api.OK)
			wantNothingKnown(t, s.b, api.ErrShape)
			wantNoPut(t, s.b, api.Held{}, api.ErrArg)
			wantNoRange(t, s.b, nil, nil, -1, api.ErrArg)
		})
	}
	undone(t, s.b, func() {
		want(t, "Drop", btree.Drop(s.b, rootOf(t, s.b)), api.OK)
		wantNothingKnown(t, s.b, api.ErrShape)
	})
	wantTree(t, s.b, small())
}

// Where the book has no names, nodes that have them can be neither put nor got; others can.
func TestNoNames(t *testing.T) {
	s := shelved(t, 300)
	want(t, "Format", store.Format(s.b), api.OK)
	all := []api.Held{root(), text([]byte{192}, value(1000)), comment([]byte{240}, "c")}
	for _, h := range all {
		wantPut(t, s.b, h)
	}
	s.wantNothing(t, func() {
		for _, h := range []api.Held{element([]byte{176}, "a"), element([]byte{192}, "a"), attribute([]byte{192}, "a", value(2000)), instruction(nil, "a", "v")} {
			wantNoPut(t, s.b, h, api.ErrShape)
		}
		want(t, "Load", store.Load(s.b, []api.Node{{Kind: api.Root, Parent: -1}}), api.ErrShape)
	})
	wantRange(t, s.b, nil, nil, 9, all...)
	// Names that are none any more.
	s = stored(t, 300, root(), element([]byte{192}, "a"), text([]byte{240}, value(1000)))
	for which := 1; which <= 2; which++ {
		undone(t, s.b, func() {
			want(t, "SetRoot", space.SetRoot(s.b, which, 0), api.OK)
			s.wantNothing(t, func() {
				wantNoGet(t, s.b, []byte{192}, api.ErrShape)
				wantNoRange(t, s.b, nil, nil, 9, api.ErrShape)
				wantNoTree(t, s.b, api.ErrShape)
				wantNoPut(t, s.b, element([]byte{240}, "a"), api.ErrShape)
				wantNoPut(t, s.b, element([]byte{240}, "b"), api.ErrShape)
				wantGet(t, s.b, root())
				wantRange(t, s.b, []byte{193}, nil, 9, text([]byte{240}, value(1000)))
			})
			wantDelete(t, s.b, []byte{192}, true)
			wantDelete(t, s.b, []byte{240}, true)
		})
	}
}

// The errors' order, and those of the book and its space.

func TestNoTransaction(t *testing.T) {
	s := loaded(t, 300, small())
	want(t, "Commit", s.b.Commit(), api.OK)
	all := heldOf(t, small())
	state := func(b *change.Book) {
		want(t, "Format", store.Format(b), api.ErrState)
		want(t, "Clear", store.Clear(b), api.ErrState)
		for _, x := range [][]api.Node{nil, small(), broad(1)[1:], make([]api.Node, api.MaxNodes+1), under(61, 1, 0), under(60, 129, 2)} {
			want(t, "Load", store.Load(b, x), api.ErrState)
		}
		for _, h := range append(wrongNodes(t), all...) {
			wantNoPut(t, b, h, api.ErrState)
			wantNoDelete(t, b, h.Label, api.ErrState)
		}
	}
	s.wantNothing(t, func() {
		state(s.b)
		wantStore(t, s.b, all...)
		wantTree(t, s.b, small())
		wantNoGet(t, s.b, []byte{252}, api.OK)
		wantNoRange(t, s.b, nil, nil, -1, api.ErrArg)
	})
	crash(s.d)
	state(s.b)
	for _, b := range []*change.Book{shelved(t, 36).b, bare(t, 36).b} {
		want(t, "Commit", b.Commit(), api.OK)
		state(b)
	}
}

func TestNoBook(t *testing.T) {
	for _, b := range []*change.Book{nil, {}, change.New(nil, nil, nil)} {
		want(t, "Format", store.Format(b), api.ErrNil)
		wantNothingKnown(t, b, api.ErrNil)
		for _, h := range wrongNodes(t) {
			wantNoPut(t, b, h, api.ErrNil)
			wantNoGet(t, b, h.Label, api.ErrNil)
			wantNoDelete(t, b, h.Label, api.ErrNil)
		}
		for _, most := range []int{-1, 0, 1, math.MinInt, math.MaxInt} {
			wantNoRange(t, b, nil, nil, most, api.ErrNil)
		}
		want(t, "Load", store.Load(b, nil), api.ErrNil)
		want(t, "Load", store.Load(b, under(61, 1, 0)), api.ErrNil)
	}
}

// emptied lets none of a book's pages that have something on them be in a frame.
func (s shelf) emptied(t *testing.T) {
	t.Helper()
	want(t, "Commit", s.b.Commit(), api.OK)
	want(t, "Point", s.b.Point(), api.OK)
	for page := 200; page < 208; page++ {
		s.b.Page(page)
		s.b.Page(page)
	}
	want(t, "Begin", s.b.Begin(), api.OK)
}

// wantWrongFirst holds what is told ahead of what is wrong with a book's pages, and no store.
func wantWrongFirst(t *testing.T, b *change.Book) {
	t.Helper()
	for _, h := range wrongNodes(t) {
		wantNoPut(t, b, h, api.ErrArg)
	}
	wantNoRange(t, b, nil, nil, -1, api.ErrArg)
	want(t, "Load", store.Load(b, nil), api.ErrShape)
	want(t, "Load", store.Load(b, under(61, 1, 0)), api.ErrDeep)
	want(t, "Load", store.Load(b, make([]api.Node, api.MaxNodes+1)), api.ErrLong)
}

func TestDeviceThatIsDown(t *testing.T) {
	s := loaded(t, 300, broad(30))
	s.emptied(t)
	crash(s.d)
	want(t, "Format", store.Format(s.b), api.ErrDown)
	wantNothingKnown(t, s.b, api.ErrDown)
	wantWrongFirst(t, s.b)
	want(t, "Load", store.Load(s.b, under(60, 129, 2)), api.ErrDown)
	s.d.Wake(nil)
	wantTree(t, s.b, broad(30))
}

// The device crashes while a call goes from page to page: whichever of them are in frames, it is told, or the call is done all the same.
func TestDeviceThatGoesDown(t *testing.T) {
	x := append(broad(20), api.Node{Kind: api.Comment, Value: strings.Repeat("c", 3000), Parent: 1})
	last := heldOf(t, x)[len(x)-1]
	calls := map[string]func(b *change.Book) (bool, api.Errno){
		"Get": func(b *change.Book) (bool, api.Errno) {
			h, is, e := store.Get(b, last.Label)
			return is && sameHeld(h, last), e
		},
		"Range": func(b *change.Book) (bool, api.Errno) {
			all, e := store.Range(b, last.Label, nil, 1)
			return len(all) == 1 && sameHeld(all[0], last), e
		},
		"Tree": func(b *change.Book) (bool, api.Errno) {
			got, _, e := store.Tree(b)
			return slices.Equal(got, x), e
		},
		"Pages": func(b *change.Book) (bool, api.Errno) {
			pages, e := store.Pages(b)
			return len(pages) > 8, e
		},
	}
	for name, call := range calls {
		s := loaded(t, 300, x)
		mine := append([]int{0, 1}, append(namesPages(t, s.b), wantPages(t, s.b)...)...)
		down := 0
		for from := range mine {
			s.emptied(t)
			for _, page := range mine[from:min(from+8, len(mine))] {
				s.b.Page(page)
			}
			crash(s.d)
			done, e := call(s.b)
			if done != (e == api.OK) || e != api.OK && e != api.ErrDown {
				t.Fatalf("%s = %v, %d", name, done, e)
			}
			if e == api.ErrDown {
				down++
			}
			s.d.Wake(nil)
		}
		if down == 0 {
			t.Errorf("%s was never told of the device", name)
		}
		wantTree(t, s.b, x)
	}
}

func TestFramesThatAreHeld(t *testing.T) {
	s := loaded(t, 300, broad(30))
	for page := 200; page < 208; page++ {
		want(t, "Hold", s.p.Hold(page), api.OK)
	}
	want(t, "Format", store.Format(s.b), api.ErrBusy)
	wantNothingKnown(t, s.b, api.ErrBusy)
	wantWrongFirst(t, s.b)
	for page := 200; page < 208; page++ {
		s.p.Leave(page)
	}
	wantTree(t, s.b, broad(30))
}

// A store needs one frame alone at a time.
func TestOneFrame(t *testing.T) {
	s := shelved(t, 1200)
	for page := 200; page < 207; page++ {
		want(t, "Hold", s.p.Hold(page), api.OK)
	}
	want(t, "names.Format", names.Format(s.b), api.OK)
	want(t, "Format", store.Format(s.b), api.OK)
	want(t, "Load", store.Load(s.b, small()), api.OK)
	wantTree(t, s.b, small())
	want(t, "Load", store.Load(s.b, broad(50)), api.OK)
	wantTree(t, s.b, broad(50))
	wantPut(t, s.b, comment([]byte{252}, value(3000)))
	wantPut(t, s.b, comment([]byte{252}, value(2000)))
	wantDelete(t, s.b, []byte{252}, true)
	wantTree(t, s.b, broad(50))
	want(t, "Clear", store.Clear(s.b), api.OK)
	wantAlone(t, s.b)
}

// A transaction that can only be ended takes no more changes.
func TestTransactionThatIsSealed(t *testing.T) {
	s := loaded(t, 36, broad(1))
	wantPut(t, s.b, comment([]byte{252}, "c"))
	s.d.Arm(1)
	want(t, "Commit", s.b.Commit(), api.ErrDown)
	s.d.Wake(nil)
	want(t, "Format", store.Format(s.b), api.ErrState)
	wantNoPut(t, s.b, text([]byte{252}, "t"), api.ErrState)
	wantNoPut(t, s.b, element([]byte{252}, "other"), api.ErrState)
	wantNoDelete(t, s.b, []byte{252}, api.ErrState)
	want(t, "Clear", store.Clear(s.b), api.ErrState)
	want(t, "Load", store.Load(s.b, small()), api.ErrState)
	wantTree(t, s.b, append(broad(1), api.Node{Kind: api.Comment, Value: "c"}))
	want(t, "Abort", s.b.Abort(), api.OK)
	wantTree(t, s.b, broad(1))
}

// changing are calls that need room, over a store of broad(20).
func changing() map[string]func(b *change.Book) api.Errno {
	return map[string]func(b *change.Book) api.Errno{
		"Format":        store.Format,
		"Put":           func(b *change.Book) api.Errno { return store.Put(b, element([]byte{252}, "all")) },
		"Put, new name": func(b *change.Book) api.Errno { return store.Put(b, element([]byte{252}, strings.Repeat("other", 20))) },
		"Put, long":     func(b *change.Book) api.Errno { return store.Put(b, comment([]byte{252}, value(3000))) },
		"Put, longer":   func(b *change.Book) api.Errno { return store.Put(b, comment([]byte{240}, value(1300))) },
		"Load":          func(b *change.Book) api.Errno { return store.Load(b, broad(21)) },
		"Clear":         store.Clear,
		"Delete": func(b *change.Book) api.Errno {
			is, e := store.Delete(b, []byte{240})
			if is != (e == api.OK) {
				return -1
			}
			return e
		},
	}
}

// Where no page is free a call is told so; undone, all is as it was. Behind some pages more it is done.
func TestSpaceThatIsFull(t *testing.T) {
	needs := map[string]bool{"Format": true, "Put, long": true, "Put, longer": true, "Put, new name": true, "Put": true, "Load": true}
	for name, call := range changing() {
		s := loaded(t, 300, broad(20))
		wantPut(t, s.b, comment([]byte{240}, value(700)))
		anew(t, s.b)
		var spare []int
		for freeOf(t, s.b) > 0 {
			spare = append(spare, taken(t, s.b))
			roomy(t, s.b)
		}
		anew(t, s.b)
		full, done := 0, false
		for !done {
			was := pagesOf(t, s.b)
			switch e := call(s.b); e {
			case api.OK:
				done = true
			case api.ErrFull:
				full++
			default:
				t.Fatalf("%s = %d", name, e)
			}
			want(t, "Abort", s.b.Abort(), api.OK)
			want(t, "Begin", s.b.Begin(), api.OK)
			if !reflect.DeepEqual(pagesOf(t, s.b), was) {
				t.Fatalf("%s: behind Abort all is not as it was", name)
			}
			if len(spare) == 0 {
				t.Fatalf("%s is never done", name)
			}
			want(t, "Give", space.Give(s.b, spare[0]), api.OK)
			spare = spare[1:]
			anew(t, s.b)
		}
		if full > 0 && !needs[name] || full == 0 && needs[name] && !strings.HasPrefix(name, "Put") && name != "Load" {
			t.Errorf("%s was told %d times that the space is full", name, full)
		}
		if name == "Put, long" && full != 6 || name == "Put, longer" && full != 1 {
			t.Errorf("%s was told %d times that the space is full", name, full)
		}
	}
}

// With whatever room the log has left, a call is done, or it is told that the log is full; undone, all is as it was.
func TestLogThatIsFull(t *testing.T) {
	for name, call := range changing() {
		done, full := 0, 0
		for room := 100; room < 30000; room += 35 + room/8 {
			s := loaded(t, 150, broad(20))
			wantPut(t, s.b, comment([]byte{240}, value(700)))
			anew(t, s.b)
			was := pagesOf(t, s.b)
			s.leave(t, room)
			switch e := call(s.b); e {
			case api.OK:
				done++
			case api.ErrFull:
				full++
			default:
				t.Fatalf("%s with room for %d: %d", name, room, e)
			}
			want(t, "Abort", s.b.Abort(), api.OK)
			if !reflect.DeepEqual(pagesOf(t, s.b), was) {
				t.Fatalf("%s with room for %d: behind Abort all is not as it was", name, room)
			}
			wantAlone(t, s.b)
		}
		if done == 0 || full == 0 {
			t.Errorf("%s was done %d times, and found the log full %d times", name, done, full)
		}
	}
}

// R3, R4.

// What was told is the caller's: whatever he does to it, nothing else is changed, and no two lists share anything.
func TestAnswersAreHandedOut(t *testing.T) {
	s := loaded(t, 300, small())
	all := heldOf(t, small())
	scratch := func(l []byte) {
		l = l[:cap(l)]
		for i := range l {
			l[i] = 7
		}
	}
	s.wantNothing(t, func() {
		for range 3 {
			told, e := store.Range(s.b, nil, nil, 99)
			want(t, "Range", e, api.OK)
			_, labels, e := store.Tree(s.b)
			want(t, "Tree", e, api.OK)
			more, e := store.Labels(s.b)
			want(t, "Labels", e, api.OK)
			for at := range all {
				one, _, e := store.Get(s.b, all[at].Label)
				want(t, "Get", e, api.OK)
				for _, l := range [][]byte{told[at].Label, labels[at], more[at], one.Label} {
					if !bytes.Equal(l, all[at].Label) {
						t.Fatalf("the label %v has become %v", all[at].Label, l)
					}
					scratch(l)
				}
				if told[at].Value != all[at].Value || told[at].Name != all[at].Name {
					t.Fatal("a text has changed")
				}
			}
			wantStore(t, s.b, all...)
		}
	})
	told, labels, e := store.Tree(s.b)
	want(t, "Tree", e, api.OK)
	anew(t, s.b)
	for page := 2; page < 300; page++ {
		want(t, "Put", s.b.Put(page, of(255)), api.OK)
		anew(t, s.b)
	}
	if !slices.Equal(told, small()) || !slices.EqualFunc(labels, all, func(l []byte, h api.Held) bool { return bytes.Equal(l, h.Label) }) {
		t.Error("what was told has changed with the pages")
	}
}

// What is handed in is neither changed nor kept, and what stands behind it counts nothing.
func TestArgumentsAreHandedIn(t *testing.T) {
	s := stored(t, 300)
	room := slices.Repeat([]byte{216}, 20)
	room[0] = 192
	l := room[:1]
	wantPut(t, s.b, element(l, "a"))
	wantGet(t, s.b, element([]byte{192}, "a"))
	wantRange(t, s.b, l, nil, 5, element([]byte{192}, "a"))
	wantRange(t, s.b, nil, l, 5)
	wantNoGet(t, s.b, room[:2], api.OK)
	if _, e := store.Range(s.b, room[1:2], room[2:3], 1); e != api.OK {
		t.Errorf("Range = %d", e)
	}
	if room[0] != 192 || !bytes.Equal(room[1:], slices.Repeat([]byte{216}, 19)) {
		t.Error("what was handed in was changed")
	}
	room[0] = 176
	wantStore(t, s.b, element([]byte{192}, "a"))
	wantDelete(t, s.b, l, false)
	x := append(broad(3), broad(1)...)
	was := slices.Clone(x)
	x = x[:len(broad(3))]
	want(t, "Load", store.Load(s.b, x), api.OK)
	if !slices.Equal(x[:len(was)], was) {
		t.Error("the tree that was handed in was changed")
	}
	clear(x)
	wantTree(t, s.b, broad(3))
}

// Of the pages of a book, those of the store and of the names are changed, and what the space says; no others.
func TestOtherPagesStay(t *testing.T) {
	s := shelved(t, 300)
	for page := 2; page < 300; page++ {
		want(t, "Put", s.b.Put(page, of(byte(page))), api.OK)
		anew(t, s.b)
	}
	want(t, "names.Format", names.Format(s.b), api.OK)
	want(t, "Format", store.Format(s.b), api.OK)
	want(t, "Load", store.Load(s.b, broad(5)), api.OK)
	anew(t, s.b)
	wantPut(t, s.b, comment([]byte{252}, value(3000)))
	mine := append([]int{0, 1}, append(namesPages(t, s.b), wantPages(t, s.b)...)...)
	for page, data := range pagesOf(t, s.b) {
		if !slices.Contains(mine, page) && !bytes.Equal(data, of(byte(page))) {
			t.Errorf("page %d was changed", page)
		}
	}
}

// Calls that only look change nothing, in a transaction or without one.
func TestLooking(t *testing.T) {
	s := loaded(t, 300, broad(30))
	look := func() {
		wantStore(t, s.b, heldOf(t, broad(30))...)
		wantTree(t, s.b, broad(30))
		wantNoGet(t, s.b, []byte{252}, api.OK)
	}
	s.wantNothing(t, look)
	want(t, "Commit", s.b.Commit(), api.OK)
	s.wantNothing(t, look)
}

// Books have nothing in common.
func TestBooksShareNothing(t *testing.T) {
	a, b := loaded(t, 300, small()).b, loaded(t, 300, broad(2)).b
	wantPut(t, b, element([]byte{252}, "x"))
	wantTree(t, a, small())
	want(t, "Clear", store.Clear(a), api.OK)
	wantStore(t, a)
	wantDelete(t, b, []byte{252}, true)
	wantTree(t, b, broad(2))
}

// A store is what the pages say, and so it is found again by whoever opens the book.
func TestStoreBehindACrash(t *testing.T) {
	d := laid(t, 300)
	b := openedBook(t, d)
	want(t, "Begin", b.Begin(), api.OK)
	want(t, "space.Format", space.Format(b), api.OK)
	want(t, "names.Format", names.Format(b), api.OK)
	want(t, "Format", store.Format(b), api.OK)
	want(t, "Load", store.Load(b, broad(30)), api.OK)
	anew(t, b)
	want(t, "Load", store.Load(b, small()), api.OK)
	wantPut(t, b, element([]byte{252}, "lost"))
	d.Wake(nil)
	b = openedBook(t, d)
	wantTree(t, b, broad(30))
	wantAlone(t, b)
	want(t, "Begin", b.Begin(), api.OK)
	wantPut(t, b, comment([]byte{252}, fmt.Sprint("more")))
	wantTree(t, b, append(broad(30), api.Node{Kind: api.Comment, Value: "more"}))
}
