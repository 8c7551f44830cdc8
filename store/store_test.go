package store_test

import (
	"bytes"
	"fmt"
	"math"
	"math/rand"
	"reflect"
	"slices"
	"strings"
	"testing"

	"parchment/api"
	"parchment/btree"
	"parchment/change"
	"parchment/device"
	"parchment/label"
	"parchment/log"
	"parchment/names"
	"parchment/pool"
	"parchment/restore"
	"parchment/space"
	"parchment/store"
	"parchment/tree"
)

// shelf is a book and all that it is of.
type shelf struct {
	d *device.Device
	l *log.Log
	p *pool.Pool
	b *change.Book
}

// laid is a device whose book has so many pages.
func laid(t *testing.T, pages int) *device.Device {
	t.Helper()
	d := device.New(2 * (pages + 2))
	want(t, "change.Format", change.Format(d), api.OK)
	return d
}

// bare is a book of so many pages of noughts, with 8 frames, in a transaction.
func bare(t *testing.T, pages int) shelf {
	t.Helper()
	d := laid(t, pages)
	first, pages, at, count := change.Place(d.Blocks())
	l, e := log.Open(d, at, count, 1, 2)
	want(t, "log.Open", e, api.OK)
	p := pool.New(d, l, first, pages, 8)
	b := change.New(d, l, p)
	if b == nil {
		t.Fatal("no book")
	}
	want(t, "Begin", b.Begin(), api.OK)
	return shelf{d, l, p, b}
}

// shelved is such a book that has a space.
func shelved(t *testing.T, pages int) shelf {
	t.Helper()
	s := bare(t, pages)
	want(t, "space.Format", space.Format(s.b), api.OK)
	anew(t, s.b)
	return s
}

func book(t *testing.T, pages int) *change.Book {
	t.Helper()
	return shelved(t, pages).b
}

func openedBook(t *testing.T, d *device.Device) *change.Book {
	t.Helper()
	b, _, e := restore.Open(d, 8)
	want(t, "Open", e, api.OK)
	return b
}

// anew ends a book's transaction, and begins another one, for which the log has room again.
func anew(t *testing.T, b *change.Book) {
	t.Helper()
	want(t, "Commit", b.Commit(), api.OK)
	want(t, "Begin", b.Begin(), api.OK)
}

// undone undoes what is done to a book.
func undone(t *testing.T, b *change.Book, do func()) {
	t.Helper()
	do()
	want(t, "Abort", b.Abort(), api.OK)
	want(t, "Begin", b.Begin(), api.OK)
}

// of is a page of one byte.
func of(x byte) []byte {
	return bytes.Repeat([]byte{x}, api.BlockSize)
}

func crash(d *device.Device) {
	d.Arm(1)
	d.Sync()
}

func want(t *testing.T, call string, got, want api.Errno) {
	t.Helper()
	if got != want {
		t.Fatalf("%s = %d; want %d", call, got, want)
	}
}

// ownOf is how many pages of so many are a space's own, in the words of chapter 14.
func ownOf(pages int) int {
	m := 0
	for 4096*m < pages {
		m++
	}
	return 1 + m
}

func freeOf(t *testing.T, b *change.Book) int {
	t.Helper()
	n, e := space.Free(b)
	want(t, "Free", e, api.OK)
	return n
}

func taken(t *testing.T, b *change.Book) int {
	t.Helper()
	page, e := space.Take(b)
	want(t, "Take", e, api.OK)
	return page
}

func pageOf(t *testing.T, b *change.Book, page int) []byte {
	t.Helper()
	data, e := b.Page(page)
	want(t, "Page", e, api.OK)
	return data
}

// pagesOf are all pages of a book.
func pagesOf(t *testing.T, b *change.Book) [][]byte {
	t.Helper()
	var out [][]byte
	for page := range b.Pages() {
		out = append(out, pageOf(t, b, page))
	}
	return out
}

// wantNothing holds the pages and the log ahead of some calls against what they are behind them.
func (s shelf) wantNothing(t *testing.T, do func()) {
	t.Helper()
	pages, end, changes, in := pagesOf(t, s.b), s.l.End(), s.b.Changes(), s.b.In()
	do()
	if s.l.End() != end || s.b.Changes() != changes || s.b.In() != in {
		t.Fatal("the transaction has gone on")
	}
	if !reflect.DeepEqual(pagesOf(t, s.b), pages) {
		t.Fatal("pages were changed")
	}
}

// leave lets the log have just so many bytes of room, or up to 35 more, by records of somebody else's.
func (s shelf) leave(t *testing.T, room int) {
	t.Helper()
	for s.l.Room() > room+35 {
		r := api.Record{Kind: api.RecCommit, Tx: 1 << 60}
		if over := s.l.Room() - room; over > 700 {
			r = api.Record{Kind: api.RecUndo, Tx: 1 << 60, Span: api.Span{New: of(0)}}
		} else if over >= 52 && over <= 563 {
			r = api.Record{Kind: api.RecUndo, Tx: 1 << 60, Span: api.Span{New: make([]byte, over-51)}}
		}
		_, e := s.l.Append(r)
		want(t, "Append", e, api.OK)
	}
}

// wrongPages are numbers that no page of so many has.
func wrongPages(pages int) []int {
	return []int{-1, -2, -4096, pages, pages + 1, pages + 4096, 65535, 65536, 65538, 1 << 32, 1<<32 + 2, 1<<40 + 3, math.MinInt, math.MinInt + 2, math.MaxInt}
}

// stored is a book of so many pages that has a space, names, and a store of these nodes, in a transaction.
func stored(t *testing.T, pages int, all ...api.Held) shelf {
	t.Helper()
	s := shelved(t, pages)
	want(t, "names.Format", names.Format(s.b), api.OK)
	want(t, "Format", store.Format(s.b), api.OK)
	anew(t, s.b)
	for _, h := range all {
		wantPut(t, s.b, h)
		roomy(t, s.b)
	}
	anew(t, s.b)
	return s
}

// loaded is such a book whose store is of a tree.
func loaded(t *testing.T, pages int, x []api.Node) shelf {
	t.Helper()
	s := stored(t, pages)
	want(t, "Load", store.Load(s.b, x), api.OK)
	anew(t, s.b)
	return s
}

// roomy ends a transaction that has grown, and begins another one.
func roomy(t *testing.T, b *change.Book) {
	t.Helper()
	if b.Changes() > 40 {
		anew(t, b)
	}
}

func root() api.Held { return api.Held{Kind: api.Root} }
func element(l []byte, name string) api.Held {
	return api.Held{Label: l, Kind: api.Element, Name: name}
}
func text(l []byte, value string) api.Held { return api.Held{Label: l, Kind: api.Text, Value: value} }
func comment(l []byte, value string) api.Held {
	return api.Held{Label: l, Kind: api.Comment, Value: value}
}

func attribute(l []byte, name, value string) api.Held {
	return api.Held{Label: l, Kind: api.Attribute, Name: name, Value: value}
}

func instruction(l []byte, name, value string) api.Held {
	return api.Held{Label: l, Kind: api.Instruction, Name: name, Value: value}
}

// value is so many bytes.
func value(n int) string {
	out := make([]byte, n)
	rand.New(rand.NewSource(int64(n))).Read(out)
	return string(out)
}

// kids are so many children's labels.
func kids(t *testing.T, l []byte, n int) [][]byte {
	t.Helper()
	out, e := label.Kids(l, n)
	want(t, "Kids", e, api.OK)
	return out
}

// deep are labels of all levels that there may be: each but the first is the one child's of the one ahead.
func deep(t *testing.T) [][]byte {
	t.Helper()
	out := [][]byte{nil}
	for {
		below, e := label.Kids(out[len(out)-1], 1)
		if e == api.ErrLabel {
			return out
		}
		want(t, "Kids", e, api.OK)
		out = append(out, below[0])
	}
}

func sameHeld(a, b api.Held) bool {
	return bytes.Equal(a.Label, b.Label) && a.Kind == b.Kind && a.Name == b.Name && a.Value == b.Value
}

func compare(a, b api.Held) int {
	return bytes.Compare(a.Label, b.Label)
}

// shown is a node in short.
func shown(h api.Held) string {
	return fmt.Sprintf("%v %d %.20q, %d bytes", h.Label, h.Kind, h.Name, len(h.Value))
}

func wantPut(t *testing.T, b *change.Book, h api.Held) {
	t.Helper()
	if e := store.Put(b, h); e != api.OK {
		t.Fatalf("Put(%s) = %d", shown(h), e)
	}
}

func wantNoPut(t *testing.T, b *change.Book, h api.Held, want api.Errno) {
	t.Helper()
	if e := store.Put(b, h); e != want {
		t.Fatalf("Put(%s) = %d; want %d", shown(h), e, want)
	}
}

func wantGet(t *testing.T, b *change.Book, h api.Held) {
	t.Helper()
	if got, is, e := store.Get(b, h.Label); !is || e != api.OK || !sameHeld(got, h) {
		t.Fatalf("Get(%v) = %s, %v, %d; want %s", h.Label, shown(got), is, e, shown(h))
	}
}

// wantNoGet holds what is told of a label that no node has, or of a book that is none.
func wantNoGet(t *testing.T, b *change.Book, l []byte, want api.Errno) {
	t.Helper()
	if got, is, e := store.Get(b, l); is || e != want || !reflect.DeepEqual(got, api.Held{}) {
		t.Fatalf("Get(%v) = %s, %v, %d; want %d", l, shown(got), is, e, want)
	}
}

func wantDelete(t *testing.T, b *change.Book, l []byte, must bool) {
	t.Helper()
	if is, e := store.Delete(b, l); is != must || e != api.OK {
		t.Fatalf("Delete(%v) = %v, %d; want %v", l, is, e, must)
	}
}

func wantNoDelete(t *testing.T, b *change.Book, l []byte, want api.Errno) {
	t.Helper()
	if is, e := store.Delete(b, l); is || e != want {
		t.Fatalf("Delete(%v) = %v, %d; want %d", l, is, e, want)
	}
}

func wantRange(t *testing.T, b *change.Book, from, to []byte, most int, all ...api.Held) {
	t.Helper()
	got, e := store.Range(b, from, to, most)
	if e != api.OK || !slices.EqualFunc(got, all, sameHeld) {
		t.Fatalf("Range(%v, %v, %d) = %d nodes, %d; want %d", from, to, most, len(got), e, len(all))
	}
}

func wantNoRange(t *testing.T, b *change.Book, from, to []byte, most int, want api.Errno) {
	t.Helper()
	if got, e := store.Range(b, from, to, most); len(got) > 0 || e != want {
		t.Fatalf("Range(%v, %v, %d) = %d nodes, %d; want %d", from, to, most, len(got), e, want)
	}
}

func wantTree(t *testing.T, b *change.Book, x []api.Node) {
	t.Helper()
	got, labels, e := store.Tree(b)
	want(t, "Tree", e, api.OK)
	if !slices.Equal(got, x) {
		t.Fatalf("Tree is %d nodes; want %d", len(got), len(x))
	}
	told, e := store.Labels(b)
	want(t, "Labels", e, api.OK)
	if !slices.EqualFunc(labels, told, bytes.Equal) {
		t.Fatal("Tree's labels are not those of Labels")
	}
}

func wantNoTree(t *testing.T, b *change.Book, want api.Errno) {
	t.Helper()
	if x, labels, e := store.Tree(b); len(x) > 0 || len(labels) > 0 || e != want {
		t.Fatalf("Tree = %d nodes, %d labels, %d; want %d", len(x), len(labels), e, want)
	}
}

// wantStore holds a book's store against all nodes that it must have.
func wantStore(t *testing.T, b *change.Book, all ...api.Held) {
	t.Helper()
	all = slices.SortedFunc(slices.Values(all), compare)
	wantRange(t, b, nil, nil, math.MaxInt, all...)
	labels, e := store.Labels(b)
	want(t, "Labels", e, api.OK)
	if !slices.EqualFunc(labels, all, func(l []byte, h api.Held) bool { return bytes.Equal(l, h.Label) }) {
		t.Fatalf("Labels are %d, other ones than the %d that they must be", len(labels), len(all))
	}
	for _, h := range all {
		wantGet(t, b, h)
	}
	wantPages(t, b)
}

// wantPages holds the pages that a store has against what they must be (P19.5, P19.6): they rise, each is taken, and they are nobody else's.
func wantPages(t *testing.T, b *change.Book) []int {
	t.Helper()
	pages, e := store.Pages(b)
	want(t, "Pages", e, api.OK)
	if len(pages) == 0 || !slices.IsSorted(pages) || len(slices.Compact(slices.Clone(pages))) != len(pages) {
		t.Fatalf("Pages = %v", pages)
	}
	others := namesPages(t, b)
	for _, page := range pages {
		if is, e := space.Taken(b, page); !is || e != api.OK || page < ownOf(b.Pages()) || slices.Contains(others, page) {
			t.Fatalf("page %d is not the store's", page)
		}
	}
	return pages
}

// namesPages are those of a book's names.
func namesPages(t *testing.T, b *change.Book) []int {
	t.Helper()
	var out []int
	for which := 1; which <= 2; which++ {
		root, e := space.Root(b, which)
		want(t, "Root", e, api.OK)
		_, pages, e := btree.Check(b, root)
		want(t, "Check", e, api.OK)
		out = append(out, pages...)
	}
	return out
}

// wantAlone is that no page is taken but the space's own, the names', the store's.
func wantAlone(t *testing.T, b *change.Book) {
	t.Helper()
	taken := ownOf(b.Pages()) + len(namesPages(t, b)) + len(wantPages(t, b))
	if free := freeOf(t, b); free != b.Pages()-taken {
		t.Fatalf("%d of %d pages are free, and %d are somebody's", free, b.Pages(), taken)
	}
}

func rootOf(t *testing.T, b *change.Book) int {
	t.Helper()
	root, e := space.Root(b, 5)
	want(t, "Root", e, api.OK)
	return root
}

// wantNothingKnown holds what all calls are told of a book that has no store, whatever is asked.
func wantNothingKnown(t *testing.T, b *change.Book, want api.Errno) {
	t.Helper()
	for _, l := range [][]byte{nil, {192}, {176}, {128}, bytes.Repeat([]byte{255}, 300)} {
		wantNoGet(t, b, l, want)
		wantNoDelete(t, b, l, want)
		wantNoRange(t, b, l, nil, 5, want)
		wantNoRange(t, b, nil, l, 1, want)
	}
	wantNoPut(t, b, root(), want)
	wantNoPut(t, b, element([]byte{192}, "a"), want)
	wantNoPut(t, b, text([]byte{192}, value(1000)), want)
	if labels, e := store.Labels(b); len(labels) > 0 || e != want {
		t.Fatalf("Labels = %d of them, %d; want %d", len(labels), e, want)
	}
	if pages, e := store.Pages(b); len(pages) > 0 || e != want {
		t.Fatalf("Pages = %v, %d; want %d", pages, e, want)
	}
	wantNoTree(t, b, want)
	if e := store.Clear(b); e != want {
		t.Fatalf("Clear = %d; want %d", e, want)
	}
	if e := store.Load(b, small()); e != want {
		t.Fatalf("Load = %d; want %d", e, want)
	}
}

// small is a tree with nodes of all kinds: <?p q?><a x="1" y=""><!--c-->t<b z="long"/>more</a>.
func small() []api.Node {
	return []api.Node{
		{Kind: api.Root, Parent: -1},
		{Kind: api.Instruction, Name: "p", Value: "q"},
		{Kind: api.Element, Name: "a"},
		{Kind: api.Attribute, Name: "x", Value: "1", Parent: 2},
		{Kind: api.Attribute, Name: "y", Parent: 2},
		{Kind: api.Comment, Value: "c", Parent: 2},
		{Kind: api.Text, Value: "t", Parent: 2},
		{Kind: api.Element, Name: "b", Parent: 2},
		{Kind: api.Attribute, Name: "z", Value: strings.Repeat("long", 400), Parent: 7},
		{Kind: api.Text, Value: strings.Repeat("more", 1000), Parent: 2},
	}
}

// broad is a tree of an element that has so many others, each with an attribute and a text.
func broad(many int) []api.Node {
	out := []api.Node{{Kind: api.Root, Parent: -1}, {Kind: api.Element, Name: "all"}}
	for i := range many {
		at := len(out)
		out = append(out, api.Node{Kind: api.Element, Name: fmt.Sprint("n", i%7), Parent: 1})
		out = append(out, api.Node{Kind: api.Attribute, Name: "at", Value: fmt.Sprint(i), Parent: at})
		out = append(out, api.Node{Kind: api.Text, Value: strings.Repeat("t", 1+i%300), Parent: at})
	}
	return out
}

// under is a tree of so many elements within one another; each but the innermost, and the root, has comments ahead of what is within it, so that it has so many children; the innermost has just so many children as last says.
func under(elements, children, last int) []api.Node {
	out := []api.Node{{Kind: api.Root, Parent: -1}}
	parent := 0
	for range elements {
		for range children - 1 {
			out = append(out, api.Node{Kind: api.Comment, Parent: parent})
		}
		out = append(out, api.Node{Kind: api.Element, Name: "e", Parent: parent})
		parent = len(out) - 1
	}
	for range last {
		out = append(out, api.Node{Kind: api.Comment, Parent: parent})
	}
	return out
}

// heldOf are a right tree's nodes under the labels that they must get, in the chapter's words.
func heldOf(t *testing.T, x []api.Node) []api.Held {
	t.Helper()
	out := make([]api.Held, len(x))
	below := map[int][]int{}
	for at, n := range x {
		out[at] = api.Held{Kind: n.Kind, Name: n.Name, Value: n.Value}
		below[n.Parent] = append(below[n.Parent], at)
	}
	for at := range x {
		for i, l := range kids(t, out[at].Label, len(below[at])) {
			out[below[at][i]].Label = l
		}
	}
	return out
}

// The chapter's example.
func TestExample(t *testing.T) {
	b := stored(t, 36).b
	x := []api.Node{{Kind: api.Root, Parent: -1}, {Kind: api.Element, Name: "a"}, {Kind: api.Attribute, Name: "x", Value: "1", Parent: 1}, {Kind: api.Text, Value: "t", Parent: 1}}
	want(t, "Load", store.Load(b, x), api.OK)
	labels, e := store.Labels(b)
	if must := [][]byte{{}, {192}, {214}, {216}}; e != api.OK || !slices.EqualFunc(labels, must, bytes.Equal) {
		t.Errorf("Labels = %v, %d", labels, e)
	}
	wantTree(t, b, x)
	wantStore(t, b, root(), element([]byte{192}, "a"), attribute([]byte{214}, "x", "1"), text([]byte{216}, "t"))
	wantAlone(t, b)
}

// P19.1.

func TestFormat(t *testing.T) {
	for _, pages := range []int{10, 36, 300, 4097} {
		b := shelved(t, pages).b
		want(t, "names.Format", names.Format(b), api.OK)
		for _, which := range []int{0, 3, 4, 5, 6, 7} {
			want(t, "SetRoot", space.SetRoot(b, which, pages-1-which), api.OK)
		}
		free := freeOf(t, b)
		want(t, "Format", store.Format(b), api.OK)
		wantStore(t, b)
		wantNoTree(t, b, api.ErrShape)
		if n := freeOf(t, b); n != free-1 || len(wantPages(t, b)) != 1 {
			t.Errorf("%d of %d pages are free, where %d were", n, pages, free)
		}
		wantAlone(t, b)
		for _, which := range []int{0, 3, 4, 6, 7} {
			if root, e := space.Root(b, which); e != api.OK || root != pages-1-which {
				t.Errorf("the root %d has become %d, %d", which, root, e)
			}
		}
	}
}

// A book that has a store has one without nodes behind a Format.
func TestFormatAgain(t *testing.T) {
	b := loaded(t, 300, small()).b
	was := rootOf(t, b)
	undone(t, b, func() {
		want(t, "Format", store.Format(b), api.OK)
		if rootOf(t, b) == was {
			t.Error("the store is no new one")
		}
		wantStore(t, b)
		wantPut(t, b, element([]byte{192}, "a"))
		wantStore(t, b, element([]byte{192}, "a"))
	})
	wantTree(t, b, small())
}

func TestFormatUndone(t *testing.T) {
	b := shelved(t, 36).b
	want(t, "names.Format", names.Format(b), api.OK)
	anew(t, b)
	undone(t, b, func() {
		want(t, "Format", store.Format(b), api.OK)
		wantPut(t, b, root())
	})
	wantNothingKnown(t, b, api.ErrShape)
	if root := rootOf(t, b); root != 0 {
		t.Errorf("the root is %d", root)
	}
}

func TestClear(t *testing.T) {
	b := stored(t, 1200).b
	free := freeOf(t, b)
	for _, x := range [][]api.Node{small(), broad(1), broad(100)} {
		want(t, "Load", store.Load(b, x), api.OK)
		anew(t, b)
		grown := len(namesPages(t, b)) - 2
		undone(t, b, func() {
			want(t, "Clear", store.Clear(b), api.OK)
			wantStore(t, b)
		})
		wantTree(t, b, x)
		for range 2 { // of a store without nodes, too
			want(t, "Clear", store.Clear(b), api.OK)
			wantStore(t, b)
			wantNoTree(t, b, api.ErrShape)
			if n := freeOf(t, b); n != free-grown || len(wantPages(t, b)) != 1 {
				t.Fatalf("%d pages are free, where %d were", n, free-grown)
			}
			wantAlone(t, b)
		}
		anew(t, b)
	}
	wantPut(t, b, root())
	wantStore(t, b, root())
	if name, e := names.Name(b, 1); name != "p" || e != api.OK { // names keep their numbers
		t.Errorf("Name = %q, %d", name, e)
	}
}

// Behind a Clear the store begins on another page, where a lower one is free.
func TestClearWhereLowerPagesAreFree(t *testing.T) {
	b := shelved(t, 300).b
	want(t, "names.Format", names.Format(b), api.OK)
	page := taken(t, b)
	want(t, "Format", store.Format(b), api.OK)
	want(t, "Load", store.Load(b, small()), api.OK)
	want(t, "Give", space.Give(b, page), api.OK)
	anew(t, b)
	undone(t, b, func() {
		want(t, "Clear", store.Clear(b), api.OK)
		wantStore(t, b)
		wantPut(t, b, root())
		wantStore(t, b, root())
		wantAlone(t, b)
	})
	want(t, "Load", store.Load(b, broad(10)), api.OK)
	wantTree(t, b, broad(10))
	wantAlone(t, b)
}

// P19.2.

// nodesOfAllKinds are right ones under any label.
func nodesOfAllKinds(l []byte) []api.Held {
	out := []api.Held{{Label: l, Kind: api.Root}}
	for _, name := range []string{"a", "_", "xml", "XML", "ä", "x-1.z", "\u0100\u3001", strings.Repeat("n", 100), strings.Repeat("ä", 50)} {
		out = append(out, element(l, name), attribute(l, name, ""), attribute(l, name, "v"), instruction(l, name, ""), instruction(l, name, "?>"))
	}
	for _, value := range []string{"", "v", " ", "\x00", "\xff\xfe", "--", "-", "?>", "äöü", "\x80", strings.Repeat("\x00", 500), value(300)} {
		out = append(out, text(l, value), comment(l, value), attribute(l, "n", value), instruction(l, "n", value))
	}
	return out
}

func TestPutAndGet(t *testing.T) {
	for _, l := range [][]byte{nil, {192}, {176}, deep(t)[341]} {
		b := stored(t, 300).b
		for _, h := range nodesOfAllKinds(l) {
			wantPut(t, b, h)
			wantStore(t, b, h)
			roomy(t, b)
		}
		wantDelete(t, b, l, true)
		wantStore(t, b)
		wantAlone(t, b)
		if n := len(wantPages(t, b)); n != 1 {
			t.Errorf("a store without nodes has %d pages", n)
		}
	}
}

// A value of each number of bytes, under short labels and long ones, so that it is the one that just stands beside its label, and the one that does not.
func TestAllLengths(t *testing.T) {
	d := deep(t)
	for _, l := range [][]byte{nil, {192}, d[50], d[341]} {
		b := stored(t, 300).b
		for n := range 1100 {
			h := attribute(l, "name", value(n))
			wantPut(t, b, h)
			wantGet(t, b, h)
			wantPages(t, b)
			if n%100 == 99 {
				wantAlone(t, b)
			}
			roomy(t, b)
		}
	}
}

func TestLongValues(t *testing.T) {
	b := stored(t, 2400).b
	for _, n := range []int{65536, 65535, 40000, 32768, 0, 65536, 10, 65536} {
		for _, h := range []api.Held{text([]byte{192}, value(n)), attribute([]byte{240}, "a", value(n))} {
			wantPut(t, b, h)
			wantGet(t, b, h)
			anew(t, b)
			wantAlone(t, b)
		}
	}
	want(t, "Clear", store.Clear(b), api.OK)
	wantAlone(t, b)
}

// Whatever was there under a label: what is put there is there, and nothing stays of the other one.
func TestPutInThePlaceOfAnother(t *testing.T) {
	l := []byte{192}
	all := []api.Held{
		element(l, "a"), element(l, "b"), text(l, ""), text(l, "t"), text(l, value(150)), text(l, value(200)), text(l, value(2000)), text(l, value(2001)),
		attribute(l, "a", ""), attribute(l, "c", "v"), attribute(l, "c", value(900)), instruction(l, "a", value(900)), comment(l, ""), {Label: l, Kind: api.Root},
	}
	beside := []api.Held{text([]byte{176}, value(700)), text([]byte{240}, "beside"), element(nil, "root")}
	b := stored(t, 600, beside...).b
	for _, x := range all {
		for _, y := range all {
			wantPut(t, b, x)
			wantPut(t, b, y)
			wantStore(t, b, append(slices.Clone(beside), y)...)
			anew(t, b)
			wantAlone(t, b)
		}
	}
	wantDelete(t, b, l, true)
	wantStore(t, b, beside...)
}

func TestPutUndone(t *testing.T) {
	all := []api.Held{root(), element([]byte{192}, "a"), text([]byte{216}, value(1000))}
	b := stored(t, 300, all...).b
	undone(t, b, func() {
		wantPut(t, b, text([]byte{216}, value(3000)))
		wantPut(t, b, element([]byte{192}, "other"))
		wantDelete(t, b, nil, true)
		wantStore(t, b, text([]byte{216}, value(3000)), element([]byte{192}, "other"))
	})
	wantStore(t, b, all...)
	if _, is, e := names.Find(b, "other"); is || e != api.OK {
		t.Error("a name has stayed")
	}
}

// wrongLabels are none.
func wrongLabels(t *testing.T) [][]byte {
	t.Helper()
	out := [][]byte{{128}, {160, 0}, {192, 0}, {0}, {0, 0}, {0, 255}, {1}, {255, 255}, {160}}
	long := deep(t)[341]
	for _, n := range []int{1, 10, 29, 30, 31, 32, 33, 100, 1000, 70000} {
		out = append(out, append(slices.Clone(long), bytes.Repeat([]byte{192}, n)...), make([]byte, n), bytes.Repeat([]byte{255}, n))
	}
	return out
}

// wrongNodes are none that a store may have.
func wrongNodes(t *testing.T) []api.Held {
	t.Helper()
	l := []byte{192}
	out := []api.Held{
		{}, {Label: l}, {Label: l, Kind: 7}, {Label: l, Kind: 8}, {Label: l, Kind: 9, Name: "a"}, {Label: l, Kind: 129}, {Label: l, Kind: 255}, {Kind: 0, Name: "a", Value: "v"},
		{Kind: api.Root, Value: "v"}, {Kind: api.Root, Name: "a"}, {Label: l, Kind: api.Element, Name: "a", Value: "v"},
		{Label: l, Kind: api.Text, Name: "a"}, {Label: l, Kind: api.Text, Name: "a", Value: "v"}, {Label: l, Kind: api.Comment, Name: "a", Value: "v"},
	}
	for _, name := range []string{"", " ", "1", "-a", "a b", "a\x00", "a:b", "\xff", "a\xff", "<", "a<", "é\x80", "\u00d7", strings.Repeat("n", 101), strings.Repeat("n", 300), strings.Repeat("ä", 51)} {
		out = append(out, element(l, name), attribute(l, name, "v"), instruction(l, name, "v"))
	}
	for _, n := range []int{65537, 65538, 131072} {
		out = append(out, text(l, value(n)), comment(l, value(n)), attribute(l, "a", value(n)), instruction(l, "a", value(n)))
	}
	for _, l := range wrongLabels(t) {
		out = append(out, element(l, "a"), text(l, "v"), api.Held{Label: l, Kind: api.Root})
	}
	return out
}

// What is no right node is refused ahead of all that stands on the book, and changes nothing.
func TestWrongNodes(t *testing.T) {
	for _, s := range []shelf{loaded(t, 300, small()), shelved(t, 36), bare(t, 36)} {
		s.wantNothing(t, func() {
			for _, h := range wrongNodes(t) {
				wantNoPut(t, s.b, h, api.ErrArg)
			}
		})
	}
}

// Labels that no node has, right ones and others.
func TestNodesThatAreNotThere(t *testing.T) {
	s := stored(t, 300, text([]byte{192}, "t"), text([]byte{240}, value(500)), text(deep(t)[341], "deep"))
	s.wantNothing(t, func() {
		for _, l := range append(wrongLabels(t), nil, []byte{176}, []byte{188}, []byte{252}, []byte{214}, deep(t)[340], deep(t)[2]) {
			wantNoGet(t, s.b, l, api.OK)
			wantDelete(t, s.b, l, false)
		}
	})
}

func TestDelete(t *testing.T) {
	all := heldOf(t, small())
	s := loaded(t, 300, small())
	wantStore(t, s.b, all...)
	r := rand.New(rand.NewSource(19))
	for range 10 {
		left := slices.Clone(all)
		for _, at := range r.Perm(len(all)) {
			wantDelete(t, s.b, all[at].Label, true)
			wantDelete(t, s.b, all[at].Label, false)
			left = slices.DeleteFunc(left, func(h api.Held) bool { return sameHeld(h, all[at]) })
			wantStore(t, s.b, left...)
			wantAlone(t, s.b)
		}
		if n := len(wantPages(t, s.b)); n != 1 {
			t.Errorf("a store without nodes has %d pages", n)
		}
		anew(t, s.b)
		for _, at := range r.Perm(len(all)) {
			wantPut(t, s.b, all[at])
		}
		anew(t, s.b)
		wantStore(t, s.b, all...)
		wantTree(t, s.b, small())
	}
}

// P19.3.

func TestRange(t *testing.T) {
	d := deep(t)
	var all []api.Held
	for i, l := range append(kids(t, nil, 40), kids(t, []byte{192}, 5)...) {
		all = append(all, []api.Held{text(l, value(i*13)), element(l, "a"), attribute(l, fmt.Sprint("n", i), "v")}[i%3])
	}
	for _, l := range append(slices.Clone(d[3:20]), d[341]) {
		all = append(all, comment(l, "deep"))
	}
	all = append(all, root())
	s := stored(t, 600, all...)
	slices.SortFunc(all, compare)
	edges := [][]byte{nil, {}, {0}, {0, 0}, {0, 255}, {1}, {127}, {128}, {192, 0}, {216, 1}, {255}, {255, 255}, make([]byte, 300), bytes.Repeat([]byte{255}, 300), append(slices.Clone(d[341]), 0)}
	for _, h := range all {
		edges = append(edges, h.Label)
		if after := label.After(h.Label); len(after) > 0 {
			edges = append(edges, after)
		}
	}
	r := rand.New(rand.NewSource(19))
	s.wantNothing(t, func() {
		for _, from := range slices.Clone(edges) {
			r.Shuffle(len(edges), func(i, j int) { edges[i], edges[j] = edges[j], edges[i] })
			for _, to := range append(slices.Clone(edges[:20]), nil, from) {
				var must []api.Held
				for _, h := range all {
					if bytes.Compare(h.Label, from) >= 0 && (len(to) == 0 || bytes.Compare(h.Label, to) < 0) {
						must = append(must, h)
					}
				}
				for _, most := range []int{0, 1, 3, len(must), math.MaxInt} {
					wantRange(t, s.b, from, to, most, must[:min(most, len(must))]...)
				}
			}
		}
	})
}

func TestRangeOfFewerThanNone(t *testing.T) {
	for _, s := range []shelf{loaded(t, 300, small()), shelved(t, 36), bare(t, 36)} {
		for _, most := range []int{-1, -2, math.MinInt} {
			wantNoRange(t, s.b, nil, nil, most, api.ErrArg)
			wantNoRange(t, s.b, []byte{240}, []byte{192}, most, api.ErrArg)
		}
	}
}

// P19.4.

func TestLoadAndTree(t *testing.T) {
	var single []api.Node
	for _, n := range append(broad(0), api.Node{Kind: api.Comment}) {
		single = append(single, n)
	}
	for name, x := range map[string][]api.Node{
		"an element": broad(0), "a comment behind it": single, "all kinds": small(),
		"100": broad(100), "1000": broad(1000), "deep": under(60, 1, 1), "deep and broad": under(60, 10, 3),
		"comments ahead": under(1, 300, 0), "many children": under(1, 1, 3000),
	} {
		t.Run(name, func(t *testing.T) {
			want(t, "tree.Check", tree.Check(x), api.OK)
			s := loaded(t, 6000, x)
			wantTree(t, s.b, x)
			wantStore(t, s.b, heldOf(t, x)...)
			wantAlone(t, s.b)
		})
	}
}

// As many nodes as a tree may have.
func TestLoadOfAllThatMayBe(t *testing.T) {
	x := broad(api.MaxNodes / 3)
	x = append(x, api.Node{Kind: api.Comment, Parent: 1})[:api.MaxNodes]
	s := loaded(t, 30000, x)
	wantTree(t, s.b, x)
	wantAlone(t, s.b)
	wantPut(t, s.b, comment([]byte{252}, "one more"))
	wantNoTree(t, s.b, api.ErrShape)
}

// What was there ahead of a Load is there no more.
func TestLoadAgain(t *testing.T) {
	s := stored(t, 2400, text([]byte{188}, value(5000)), element(deep(t)[100], "deep"))
	for _, x := range [][]api.Node{small(), broad(50), small(), broad(0), broad(100), broad(100)} {
		want(t, "Load", store.Load(s.b, x), api.OK)
		wantTree(t, s.b, x)
		wantStore(t, s.b, heldOf(t, x)...)
		anew(t, s.b)
		wantAlone(t, s.b)
	}
	undone(t, s.b, func() { want(t, "Load", store.Load(s.b, small()), api.OK) })
	wantTree(t, s.b, broad(100))
}

// What is no right tree is refused ahead of all that stands on the book, and changes nothing.
func TestLoadOfWhatIsNoTree(t *testing.T) {
	long := append(broad(0), slices.Repeat([]api.Node{{Kind: api.Comment, Parent: 1}}, api.MaxNodes-1)...)
	wrong := map[api.Errno][][]api.Node{
		api.ErrLong: {long, make([]api.Node, api.MaxNodes+1)},
		api.ErrDeep: {under(61, 1, 0), under(61, 129, 129), under(100, 1, 0)},
		api.ErrShape: {
			nil, {}, {{}}, {{Kind: api.Root, Parent: -1}}, {{Kind: api.Element, Name: "a", Parent: -1}}, broad(1)[1:], append(broad(0), broad(0)...),
			append(broad(0), api.Node{Kind: api.Element, Name: "b"}), append(broad(0), api.Node{Kind: api.Text, Value: "t"}), append(broad(0), api.Node{Kind: api.Text, Parent: 1}),
			append(broad(0), api.Node{Kind: api.Element, Name: "1", Parent: 1}), append(broad(0), api.Node{Kind: api.Comment, Parent: 2}), append(broad(0), api.Node{Kind: api.Comment, Parent: 5}),
			append(broad(0), api.Node{Kind: api.Text, Value: strings.Repeat("v", 65537), Parent: 1}), append(broad(0), api.Node{Kind: 7, Parent: 1}),
			append(broad(1), api.Node{Kind: api.Comment, Parent: -2}), append(broad(1), api.Node{Kind: api.Comment, Parent: math.MinInt}), append(broad(1), api.Node{Kind: api.Comment, Parent: math.MaxInt}),
		},
	}
	for _, s := range []shelf{loaded(t, 300, small()), shelved(t, 36), bare(t, 36)} {
		s.wantNothing(t, func() {
			for e, all := range wrong {
				for at, x := range all {
					if got := store.Load(s.b, x); got != e {
						t.Errorf("Load of %d = %d; want %d", at, got, e)
					}
				}
			}
		})
	}
}

// Where a label has no room nothing changes: 60 steps of 17 bits have some left for one of 3, and for none of 5.
func TestLoadWithoutRoomForLabels(t *testing.T) {
	s := stored(t, 20000)
	x := under(60, 129, 1)
	want(t, "Load", store.Load(s.b, x), api.OK)
	anew(t, s.b)
	wantTree(t, s.b, x)
	labels, e := store.Labels(s.b)
	want(t, "Labels", e, api.OK)
	if longest := labels[len(labels)-1]; len(longest) != 128 || label.Level(longest) != 61 {
		t.Errorf("the longest label has %d bytes", len(longest))
	}
	s.wantNothing(t, func() {
		for _, x := range [][]api.Node{under(60, 129, 2), under(60, 129, 3), under(60, 129, 129), under(60, 201, 2)} {
			want(t, "tree.Check", tree.Check(x), api.OK)
			want(t, "Load", store.Load(s.b, x), api.ErrLabel)
		}
	})
	wantTree(t, s.b, x)
	// No store, or one that is none, is told ahead of it.
	for _, root := range []int{0, 1, 19999} {
		undone(t, s.b, func() {
			want(t, "SetRoot", space.SetRoot(s.b, 5, root), api.OK)
			want(t, "Load", store.Load(s.b, under(60, 129, 2)), api.ErrShape)
		})
	}
	undone(t, s.b, func() {
		pages, e := store.Pages(s.b)
		want(t, "Pages", e, api.OK)
		want(t, "Put", s.b.Put(pages[len(pages)/2], of(255)), api.OK)
		want(t, "Load", store.Load(s.b, under(60, 129, 2)), api.ErrShape)
	})
}

// Stores that are of no tree, for what is there, or for what is not.
func TestStoresOfNoTree(t *testing.T) {
	a := []byte{192}
	k := kids(t, a, 7)
	for name, all := range map[string][]api.Held{
		"no node":                         {},
		"no root":                         {element(a, "a")},
		"no root above all":               {element(a, "a"), text(k[0], "t")},
		"a root alone":                    {root()},
		"a root elsewhere":                {{Label: a, Kind: api.Root}},
		"two roots":                       {root(), element([]byte{176}, "a"), {Label: a, Kind: api.Root}},
		"an element for a root":           {element(nil, "r"), element(a, "a")},
		"two elements of the root":        {root(), element(a, "a"), element([]byte{240}, "b")},
		"no parent":                       {root(), element(a, "a"), text(kids(t, k[0], 1)[0], "t")},
		"no parent, though there is more": {root(), element(a, "a"), text(k[0], "t"), text(kids(t, k[1], 1)[0], "t")},
		"a text's child":                  {root(), element(a, "a"), text(k[0], "t"), comment(kids(t, k[0], 1)[0], "c")},
		"a text of the root":              {root(), element(a, "a"), text([]byte{240}, "t")},
		"two texts":                       {root(), element(a, "a"), text(k[0], "t"), text(k[1], "u")},
		"a text of no bytes":              {root(), element(a, "a"), text(k[0], "")},
		"a text that is none":             {root(), element(a, "a"), text(k[0], "\x00")},
		"a comment that is none":          {root(), element(a, "a"), comment(k[0], "--")},
		"an instruction that is none":     {root(), element(a, "a"), instruction(k[0], "xml", "")},
		"an attribute behind a text":      {root(), element(a, "a"), text(k[0], "t"), attribute(k[1], "x", "1")},
		"an attribute of the root":        {root(), attribute([]byte{176}, "x", "1"), element(a, "a")},
		"two attributes of one name":      {root(), element(a, "a"), attribute(k[0], "x", "1"), attribute(k[1], "x", "2")},
	} {
		t.Run(name, func(t *testing.T) {
			s := stored(t, 60, all...)
			s.wantNothing(t, func() { wantNoTree(t, s.b, api.ErrShape) })
			wantStore(t, s.b, all...)
		})
	}
}

// More elements within one another than may be are no tree.
func TestStoreThatIsTooDeep(t *testing.T) {
	s := stored(t, 300, root())
	d := deep(t)
	for level := 1; level <= 61; level++ {
		wantPut(t, s.b, element(d[level], "e"))
		roomy(t, s.b)
		if level <= 60 {
			wantTree(t, s.b, under(level, 1, 0))
		}
	}
	wantNoTree(t, s.b, api.ErrShape)
}

// A tree whose nodes came one by one, under labels between others.
func TestTreeThatGrows(t *testing.T) {
	s := stored(t, 600, root(), element([]byte{192}, "a"))
	var behind []byte
	x := broad(0)[:1]
	x = append(x, api.Node{Kind: api.Element, Name: "a"})
	for i := range 60 { // the last one first
		l, e := label.Between([]byte{192}, nil, behind)
		want(t, "Between", e, api.OK)
		wantPut(t, s.b, comment(l, fmt.Sprint(i)))
		x = slices.Insert(x, 2, api.Node{Kind: api.Comment, Value: fmt.Sprint(i), Parent: 1})
		wantTree(t, s.b, x)
		behind = l
		roomy(t, s.b)
	}
	wantPut(t, s.b, text([]byte{216}, "t")) // in the place of the first one that came
	x[len(x)-1] = api.Node{Kind: api.Text, Value: "t", Parent: 1}
	wantTree(t, s.b, x)
}

// P19.5, P19.6.

// The pages that a store holds are those that it has taken since it was made, and that were not given back.
func TestPages(t *testing.T) {
	s := stored(t, 600)
	var all []api.Held
	for i, l := range kids(t, nil, 60) {
		all = append(all, text(l, value(i*i)))
	}
	for _, h := range all {
		before, free := wantPages(t, s.b), freeOf(t, s.b)
		wantPut(t, s.b, h)
		now := wantPages(t, s.b)
		if freeOf(t, s.b) != free-len(now)+len(before) {
			t.Fatalf("the store had %d pages, and has %d; free are %d of %d", len(before), len(now), freeOf(t, s.b), free)
		}
		if len(h.Value) > 200 && len(now) < len(before)+1+len(h.Value)/512 {
			t.Fatalf("%d bytes have taken %d pages", len(h.Value), len(now)-len(before))
		}
		anew(t, s.b)
		wantAlone(t, s.b)
	}
	for _, h := range all {
		wantDelete(t, s.b, h.Label, true)
		roomy(t, s.b)
		wantAlone(t, s.b)
	}
	if n := len(wantPages(t, s.b)); n != 1 {
		t.Errorf("a store without nodes has %d pages", n)
	}
}
