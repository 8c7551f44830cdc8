package cursor_test

import (
	"bytes"
	"fmt"
	"maps"
	"math"
	"math/rand"
	"reflect"
	"slices"
	"strings"
	"testing"

	"parchment/api"
	"parchment/btree"
	"parchment/change"
	"parchment/cursor"
	"parchment/device"
	"parchment/log"
	"parchment/pool"
	"parchment/space"
)

// shelf is a book and all that it is of.
type shelf struct {
	d *device.Device
	l *log.Log
	p *pool.Pool
	b *change.Book
}

// shelved is a book of so many pages, with a space and 8 frames, in a transaction.
func shelved(t *testing.T, pages int) shelf {
	t.Helper()
	d := device.New(2 * (pages + 2))
	want(t, "change.Format", change.Format(d), api.OK)
	first, pages, at, count := change.Place(d.Blocks())
	l, e := log.Open(d, at, count, 1, 2)
	want(t, "log.Open", e, api.OK)
	p := pool.New(d, l, first, pages, 8)
	b := change.New(d, l, p)
	if b == nil {
		t.Fatal("no book")
	}
	want(t, "Begin", b.Begin(), api.OK)
	want(t, "space.Format", space.Format(b), api.OK)
	return shelf{d, l, p, b}
}

func want(t *testing.T, call string, got, want api.Errno) {
	t.Helper()
	if got != want {
		t.Fatalf("%s = %d; want %d", call, got, want)
	}
}

// roomy ends a transaction that has grown, and begins another one, for which the log has room again.
func roomy(t *testing.T, b *change.Book) {
	t.Helper()
	if b.Changes() > 60 {
		want(t, "Commit", b.Commit(), api.OK)
		want(t, "Begin", b.Begin(), api.OK)
	}
}

// grown is the root of a tree of keys, each with its own value; and these, in order.
func grown(t *testing.T, b *change.Book, keys ...string) (int, []string) {
	t.Helper()
	root, e := btree.New(b)
	want(t, "btree.New", e, api.OK)
	for _, key := range keys {
		put(t, b, root, key, valueOf(key))
	}
	keys = slices.Clone(keys)
	slices.Sort(keys)
	return root, slices.Compact(keys)
}

func valueOf(key string) string {
	return fmt.Sprint(len(key), key[:min(len(key), 5)])
}

// put lets a tree have a cell. Its root stays where it is, so that cursors do, too.
func put(t *testing.T, b *change.Book, root int, key, value string) {
	t.Helper()
	roomy(t, b)
	to, e := btree.Put(b, root, []byte(key), []byte(value))
	if to != root || e != api.OK {
		t.Fatalf("Put(%q) = %d, %d; want %d", key, to, e, root)
	}
}

func drop(t *testing.T, b *change.Book, root int, key string) {
	t.Helper()
	roomy(t, b)
	to, was, e := btree.Delete(b, root, []byte(key))
	if to != root || !was || e != api.OK {
		t.Fatalf("Delete(%q) = %d, %v, %d; want %d", key, to, was, e, root)
	}
}

func wantNew(t *testing.T, b *change.Book, root int) *cursor.Cursor {
	t.Helper()
	c := cursor.New(b, root)
	if c == nil {
		t.Fatal("no cursor")
	}
	return c
}

func wantSeek(t *testing.T, c *cursor.Cursor, key string) {
	t.Helper()
	want(t, "Seek", c.Seek([]byte(key)), api.OK)
}

// step is Next or Back.
type step func(c *cursor.Cursor) (api.Cell, bool, api.Errno)

var steps = map[string]step{"Next": (*cursor.Cursor).Next, "Back": (*cursor.Cursor).Back}

// wantStep holds what Next or Back tells against a key, with its own value.
func wantStep(t *testing.T, c *cursor.Cursor, call, key string) {
	t.Helper()
	x, is, e := steps[call](c)
	if string(x.Key) != key || string(x.Value) != valueOf(key) || !is || e != api.OK {
		t.Fatalf("%s = %q, %q, %v, %d; want %q", call, x.Key, x.Value, is, e, key)
	}
}

// wantNone holds what Next or Back tells where there is nothing; of an error, too.
func wantNone(t *testing.T, c *cursor.Cursor, call string, must api.Errno) {
	t.Helper()
	if x, is, e := steps[call](c); !reflect.DeepEqual(x, api.Cell{}) || is || e != must {
		t.Fatalf("%s = %q, %q, %v, %d; want none, %d", call, x.Key, x.Value, is, e, must)
	}
}

// wantBetween holds a cursor against the cells on both sides of its cut, so many of the keys ahead; behind it the cut is where it was.
func wantBetween(t *testing.T, c *cursor.Cursor, keys []string, ahead int) {
	t.Helper()
	for range 2 {
		if ahead < len(keys) {
			wantStep(t, c, "Next", keys[ahead])
			wantStep(t, c, "Back", keys[ahead])
		} else {
			wantNone(t, c, "Next", api.OK)
		}
		if ahead > 0 {
			wantStep(t, c, "Back", keys[ahead-1])
			wantStep(t, c, "Next", keys[ahead-1])
		} else {
			wantNone(t, c, "Back", api.OK)
		}
	}
}

// wantAll holds a cursor that is ahead of all keys against them, there and back.
func wantAll(t *testing.T, c *cursor.Cursor, keys []string) {
	t.Helper()
	wantNone(t, c, "Back", api.OK)
	for _, key := range keys {
		wantStep(t, c, "Next", key)
	}
	wantNone(t, c, "Next", api.OK)
	wantNone(t, c, "Next", api.OK)
	for _, key := range slices.Backward(keys) {
		wantStep(t, c, "Back", key)
	}
	wantNone(t, c, "Back", api.OK)
	wantNone(t, c, "Back", api.OK)
}

func wantRange(t *testing.T, b *change.Book, root int, from, to string, most int, keys ...string) {
	t.Helper()
	row, e := cursor.Range(b, root, []byte(from), []byte(to), most)
	same := slices.EqualFunc(row, keys, func(x api.Cell, key string) bool {
		return string(x.Key) == key && string(x.Value) == valueOf(key)
	})
	if !same || e != api.OK {
		t.Fatalf("Range(%q, %q, %d) = %q, %d; want %q", from, to, most, row, e, keys)
	}
}

func wantNoRange(t *testing.T, b *change.Book, root int, from, to string, most int, must api.Errno) {
	t.Helper()
	if row, e := cursor.Range(b, root, []byte(from), []byte(to), most); len(row) > 0 || e != must {
		t.Fatalf("Range(%d, %q, %q, %d) = %q, %d; want %d", root, from, to, most, row, e, must)
	}
}

// ahead is how many keys, in order, are below one.
func ahead(keys []string, key string) int {
	at, _ := slices.BinarySearch(keys, key)
	return at
}

// within are the first so many of the keys that Range must tell, in the chapter's words.
func within(keys []string, from, to string, most int) []string {
	var out []string
	for _, key := range keys {
		if len(out) < most && key >= from && (key < to || to == "") {
			out = append(out, key)
		}
	}
	return out
}

// near are keys that stand close to one: those that are told apart by their last byte, or by their length.
func near(key string) []string {
	last := len(key) - 1
	out := []string{key, key[:last], key + "\x00", key + "\xff", key + strings.Repeat("\x00", 300)}
	if key[last] > 0 {
		out = append(out, key[:last]+string([]byte{key[last] - 1}), key[:last]+string([]byte{key[last] - 1})+strings.Repeat("\xff", 300))
	}
	if key[last] < 255 {
		out = append(out, key[:last]+string([]byte{key[last] + 1}))
	}
	return out
}

// kinds are rows of keys, each by a number: what they have in common, how long they are.
func kinds() map[string]func(i int) string {
	return map[string]func(i int) string{
		"short":   func(i int) string { return fmt.Sprintf("%04x", i) },
		"long":    func(i int) string { return strings.Repeat("k", 155) + fmt.Sprintf("%05d", i) },
		"early":   func(i int) string { return fmt.Sprintf("%05d", i) + strings.Repeat("k", 155) },
		"bytes":   func(i int) string { return string([]byte{byte(i * 7), byte(i * 11 >> 4), 0, 255}) },
		"growing": func(i int) string { return fmt.Sprintf("%04d", i)[:1+i%4] + strings.Repeat("\xff", i%157) },
		"mixed":   func(i int) string { return strings.Repeat("m", i%3*70) + fmt.Sprintf("%05d", i) },
	}
}

// rowOf are so many keys of a kind, in any order.
func rowOf(kind func(i int) string, n int) []string {
	var out []string
	for _, i := range rand.New(rand.NewSource(int64(n))).Perm(n) {
		out = append(out, kind(i))
	}
	return out
}

// eachTree does something with trees of all kinds of keys, of one page and of many.
func eachTree(t *testing.T, do func(t *testing.T, s shelf, root int, keys []string)) {
	t.Helper()
	for name, kind := range kinds() {
		for _, n := range []int{0, 1, 2, 5, 30, 120} {
			t.Run(fmt.Sprint(name, n), func(t *testing.T) {
				s := shelved(t, 400)
				root, keys := grown(t, s.b, rowOf(kind, n)...)
				do(t, s, root, keys)
			})
		}
	}
}

// The chapter's examples.
func TestExamples(t *testing.T) {
	b := shelved(t, 36).b
	root, _ := grown(t, b, "a", "b", "d")
	c := wantNew(t, b, root)
	wantStep(t, c, "Next", "a")
	wantStep(t, c, "Next", "b")
	wantStep(t, c, "Back", "b")
	wantStep(t, c, "Back", "a")
	wantNone(t, c, "Back", api.OK)
	wantSeek(t, c, "c")
	wantStep(t, c, "Next", "d")
	wantNone(t, c, "Next", api.OK)
	wantStep(t, c, "Back", "d")
	wantRange(t, b, root, "a", "c", 9, "a", "b")
	wantRange(t, b, root, "b", "", 1, "b")
	wantRange(t, b, root, "", "", 0)
	wantSeek(t, c, "b")
	drop(t, b, root, "b")
	wantStep(t, c, "Next", "d")
}

// P16.1: a new cursor is ahead of all keys.
func TestNew(t *testing.T) {
	eachTree(t, func(t *testing.T, s shelf, root int, keys []string) {
		wantBetween(t, wantNew(t, s.b, root), keys, 0)
	})
}

// A cursor is made of whatever root: what is there is looked at by its calls.
func TestNewOfNoRoot(t *testing.T) {
	b := shelved(t, 36).b
	c := wantNew(t, b, 2)
	wantNone(t, c, "Next", api.ErrShape)
	wantNone(t, c, "Back", api.ErrShape)
	wantSeek(t, c, "b")
	root, keys := grown(t, b, "a", "b", "c")
	if root != 2 {
		t.Fatalf("the root is %d", root)
	}
	wantBetween(t, c, keys, 1)
	want(t, "Drop", btree.Drop(b, root), api.OK)
	wantNone(t, c, "Next", api.ErrShape)
	wantNone(t, c, "Back", api.ErrShape)
	if root, keys = grown(t, b, "x", "a"); root != 2 {
		t.Fatalf("the root is %d", root)
	}
	wantBetween(t, c, keys, 1)
}

// P16.1: the cut lies ahead of a key, whether the tree has it or not, and whether one may have it.
func TestSeek(t *testing.T) {
	eachTree(t, func(t *testing.T, s shelf, root int, keys []string) {
		c := wantNew(t, s.b, root)
		for _, key := range keys {
			for _, other := range near(key) {
				wantSeek(t, c, other)
				wantBetween(t, c, keys, ahead(keys, other))
			}
		}
		for _, other := range []string{"\x00", "\xff", "m", strings.Repeat("\xff", 1000), strings.Repeat("k", 200)} {
			wantSeek(t, c, other)
			wantBetween(t, c, keys, ahead(keys, other))
		}
		wantSeek(t, c, "")
		wantBetween(t, c, keys, 0)
		want(t, "Seek", c.Seek(nil), api.OK)
		wantBetween(t, c, keys, 0)
	})
}

// P16.2, P16.4: each cell once, in order, and all of them the other way round.
func TestThereAndBack(t *testing.T) {
	eachTree(t, func(t *testing.T, s shelf, root int, keys []string) {
		c := wantNew(t, s.b, root)
		wantAll(t, c, keys)
		wantAll(t, c, keys)
		for at := range keys {
			wantBetween(t, c, keys, at)
			wantStep(t, c, "Next", keys[at])
		}
		wantBetween(t, c, keys, len(keys))
	})
}

// P16.2: behind Next the cut lies behind its key, and behind Back ahead of it, whatever comes and goes.
func TestCutStaysAtItsKey(t *testing.T) {
	b := shelved(t, 36).b
	root, _ := grown(t, b, "b", "d")
	next, back := wantNew(t, b, root), wantNew(t, b, root)
	wantStep(t, next, "Next", "b")
	wantSeek(t, back, "c")
	wantStep(t, back, "Back", "b")
	for _, key := range []string{"a", "b\x00", "a\xff"} {
		put(t, b, root, key, valueOf(key))
	}
	wantBetween(t, next, []string{"a", "a\xff", "b", "b\x00", "d"}, 3)
	wantBetween(t, back, []string{"a", "a\xff", "b", "b\x00", "d"}, 2)
	drop(t, b, root, "b")
	wantSeek(t, next, "b\x00")
	wantBetween(t, next, []string{"a", "a\xff", "b\x00", "d"}, 2)
	wantBetween(t, back, []string{"a", "a\xff", "b\x00", "d"}, 2)
}

// A cell that was told and is gone comes back on the side of the cut on which it was.
func TestCellThatComesAgain(t *testing.T) {
	b := shelved(t, 36).b
	root, keys := grown(t, b, "a", "b", "c")
	next, back := wantNew(t, b, root), wantNew(t, b, root)
	wantSeek(t, next, "b")
	wantStep(t, next, "Next", "b")
	wantSeek(t, back, "b\x00")
	wantStep(t, back, "Back", "b")
	drop(t, b, root, "b")
	put(t, b, root, "b", valueOf("b"))
	wantBetween(t, next, keys, 2)
	wantBetween(t, back, keys, 1)
	for _, key := range keys {
		drop(t, b, root, key)
	}
	for _, c := range []*cursor.Cursor{next, back} {
		wantNone(t, c, "Next", api.OK)
		wantNone(t, c, "Back", api.OK)
	}
	put(t, b, root, "b", valueOf("b"))
	wantBetween(t, next, []string{"b"}, 1)
	wantBetween(t, back, []string{"b"}, 0)
}

// Where there is nothing the cut stays, and does not go to the end.
func TestCutStaysWhereThereIsNothing(t *testing.T) {
	b := shelved(t, 36).b
	root, _ := grown(t, b, "d")
	c := wantNew(t, b, root)
	wantNone(t, c, "Back", api.OK)
	put(t, b, root, "c", valueOf("c"))
	wantNone(t, c, "Back", api.OK)
	wantStep(t, c, "Next", "c")
	wantStep(t, c, "Next", "d")
	wantNone(t, c, "Next", api.OK)
	for _, key := range []string{"e", "f"} {
		put(t, b, root, key, valueOf(key))
	}
	wantStep(t, c, "Next", "e")
	wantSeek(t, c, "b")
	wantNone(t, c, "Back", api.OK)
	put(t, b, root, "a", valueOf("a"))
	wantStep(t, c, "Back", "a")
}

// A cursor looks at the tree as it is, while its pages are cut and put together.
func TestTreeThatChanges(t *testing.T) {
	for name, kind := range kinds() {
		t.Run(name, func(t *testing.T) {
			b := shelved(t, 400).b
			root, keys := grown(t, b, rowOf(kind, 80)...)
			c := wantNew(t, b, root)
			var gone []string
			for i, key := range keys { // each one is told, and two of three are gone then
				wantStep(t, c, "Next", key)
				if i%3 > 0 {
					drop(t, b, root, key)
					gone = append(gone, key)
				}
			}
			wantNone(t, c, "Next", api.OK)
			for i, key := range slices.Backward(keys) { // those that stay are told, and those that were gone, since each is there again
				if i%3 > 0 {
					put(t, b, root, key, valueOf(key))
				}
				wantStep(t, c, "Back", key)
			}
			wantNone(t, c, "Back", api.OK)
			for _, key := range gone {
				drop(t, b, root, key)
			}
			wantAll(t, c, slices.DeleteFunc(slices.Clone(keys), func(key string) bool { return slices.Contains(gone, key) }))
		})
	}
}

// A value that was put in the place of another one is told from then on.
func TestValues(t *testing.T) {
	b := shelved(t, 36).b
	root, _ := grown(t, b, "a")
	c := wantNew(t, b, root)
	for _, value := range []string{"", "1", strings.Repeat("v", api.MaxCell-1)} {
		put(t, b, root, "a", value)
		x, is, e := c.Next()
		if string(x.Key) != "a" || string(x.Value) != value || !is || e != api.OK {
			t.Fatalf("Next = %q, %v, %d; want the value %q", x, is, e, value)
		}
		x, is, e = c.Back()
		if string(x.Key) != "a" || string(x.Value) != value || !is || e != api.OK {
			t.Fatalf("Back = %q, %v, %d; want the value %q", x, is, e, value)
		}
		if row, e := cursor.Range(b, root, nil, nil, 1); len(row) != 1 || string(row[0].Value) != value || e != api.OK {
			t.Fatalf("Range = %q, %d; want the value %q", row, e, value)
		}
	}
}

// Cursors have nothing in common.
func TestManyCursors(t *testing.T) {
	b := shelved(t, 400).b
	root, keys := grown(t, b, rowOf(kinds()["mixed"], 60)...)
	other, others := grown(t, b, rowOf(kinds()["short"], 40)...)
	var all []*cursor.Cursor
	for at, key := range keys {
		c := wantNew(t, b, root)
		wantSeek(t, c, key)
		all = append(all, c)
		if at%2 > 0 {
			wantStep(t, c, "Next", key)
		}
	}
	c := wantNew(t, b, other)
	for at, key := range others {
		wantStep(t, c, "Next", key)
		wantBetween(t, all[at], keys, at+at%2)
	}
	for at := range keys {
		wantBetween(t, all[at], keys, at+at%2)
	}
}

// A cursor's copy goes its own way.
func TestCopiedCursor(t *testing.T) {
	b := shelved(t, 36).b
	root, keys := grown(t, b, "a", "b", "c")
	c := wantNew(t, b, root)
	wantStep(t, c, "Next", "a")
	other := *c
	wantStep(t, c, "Next", "b")
	wantBetween(t, &other, keys, 1)
	wantSeek(t, &other, "")
	wantBetween(t, c, keys, 2)
}

// P16.3.
func TestRange(t *testing.T) {
	eachTree(t, func(t *testing.T, s shelf, root int, keys []string) {
		r := rand.New(rand.NewSource(int64(len(keys))))
		bounds := []string{"", "\x00", "\xff", "m", strings.Repeat("\xff", 1000), strings.Repeat("k", 161)}
		for _, key := range keys {
			bounds = append(bounds, near(key)...)
		}
		counts := []int{1, 2, 3, 10, len(keys), len(keys) + 1, max(1, len(keys)-1), math.MaxInt}
		for range 300 {
			from, to := bounds[r.Intn(len(bounds))], bounds[r.Intn(len(bounds))]
			most := counts[r.Intn(len(counts))]
			wantRange(t, s.b, root, from, to, most, within(keys, from, to, most)...)
		}
		for _, most := range []int{0, -1, math.MinInt} {
			wantRange(t, s.b, root, "", "", most)
		}
		wantRange(t, s.b, root, "", "", math.MaxInt, keys...)
		for at, key := range keys {
			wantRange(t, s.b, root, key, "", 1, key)
			wantRange(t, s.b, root, key, key, 9)
			wantRange(t, s.b, root, key, key+"\x00", 9, key)
			wantRange(t, s.b, root, "", key, math.MaxInt, keys[:at]...)
			wantRange(t, s.b, root, key, "", math.MaxInt, keys[at:]...)
			wantRange(t, s.b, root, key, "\x00", 9)
		}
	})
}

// wrongPages are numbers that no page of so many has.
func wrongPages(pages int) []int {
	return []int{-1, -2, -4096, pages, pages + 1, pages + 4096, 65535, 65536, 65538, 1 << 32, 1<<32 + 2, math.MinInt, math.MinInt + 2, math.MaxInt}
}

// A page that is no tree's root: noughts, the space's own, what is no page, what a tree has of other pages, other people's, and what was a root.
func TestRootsThatAreNone(t *testing.T) {
	for _, pages := range []int{300, 4097} {
		s := shelved(t, pages)
		root, keys := grown(t, s.b, rowOf(kinds()["long"], 60)...)
		_, of, e := btree.Check(s.b, root)
		want(t, "Check", e, api.OK)
		gone, _ := grown(t, s.b, "a")
		want(t, "Drop", btree.Drop(s.b, gone), api.OK)
		other, e := space.Take(s.b)
		want(t, "Take", e, api.OK)
		none := slices.DeleteFunc(of, func(page int) bool { return page == root })
		none = append(none, wrongPages(pages)...)
		none = append(none, 0, 1, gone, other, other+1, pages-1)
		for _, page := range none {
			c := wantNew(t, s.b, page)
			for _, key := range []string{"", "a", keys[9]} {
				wantSeek(t, c, key)
				wantNone(t, c, "Next", api.ErrShape)
				wantNone(t, c, "Back", api.ErrShape)
				wantNoRange(t, s.b, page, key, "", 1, api.ErrShape)
				wantNoRange(t, s.b, page, key, keys[9], math.MaxInt, api.ErrShape)
				wantNoRange(t, s.b, page, "z", "b", 1, api.ErrShape)
				wantNoRange(t, s.b, page, key, key, 0, api.OK)
				wantNoRange(t, s.b, page, key, key, math.MinInt, api.OK)
			}
		}
		wantBetween(t, wantNew(t, s.b, root), keys, 0)
	}
}

// R5.
func TestNoBook(t *testing.T) {
	for _, b := range []*change.Book{nil, {}} {
		for _, root := range []int{-1, 0, 2} {
			if c := cursor.New(b, root); c != nil {
				t.Errorf("New(%d) = %v", root, c)
			}
			for _, most := range []int{1, 0, -1} {
				wantNoRange(t, b, root, "a", "b", most, api.ErrNil)
				wantNoRange(t, b, root, "", "", most, api.ErrNil)
			}
		}
	}
}

// R5.
func TestNoCursor(t *testing.T) {
	for _, c := range []*cursor.Cursor{nil, {}, new(cursor.Cursor)} {
		for _, key := range [][]byte{nil, {}, []byte("a"), make([]byte, 300)} {
			want(t, "Seek", c.Seek(key), api.ErrNil)
			wantNone(t, c, "Next", api.ErrNil)
			wantNone(t, c, "Back", api.ErrNil)
		}
	}
}

// A book without a space has no tree, whatever is asked.
func TestNoSpace(t *testing.T) {
	d := device.New(80)
	want(t, "change.Format", change.Format(d), api.OK)
	first, pages, at, count := change.Place(d.Blocks())
	l, _ := log.Open(d, at, count, 1, 2)
	b := change.New(d, l, pool.New(d, l, first, pages, 8))
	for root := range pages {
		c := wantNew(t, b, root)
		wantNone(t, c, "Next", api.ErrShape)
		wantNone(t, c, "Back", api.ErrShape)
		wantNoRange(t, b, root, "", "", 1, api.ErrShape)
	}
}

// away puts all pages of a tree out of the frames.
func (s shelf) away(t *testing.T) {
	t.Helper()
	want(t, "Commit", s.b.Commit(), api.OK)
	want(t, "Point", s.b.Point(), api.OK)
	for range 2 {
		for page := 280; page < 288; page++ {
			s.b.Page(page)
		}
	}
}

func TestDeviceThatIsDown(t *testing.T) {
	s := shelved(t, 300)
	root, keys := grown(t, s.b, rowOf(kinds()["long"], 60)...)
	c, behind := wantNew(t, s.b, root), wantNew(t, s.b, root)
	wantSeek(t, c, keys[30])
	wantSeek(t, behind, keys[30])
	wantStep(t, behind, "Next", keys[30])
	s.away(t)
	s.d.Arm(1)
	s.d.Sync()
	wantNone(t, c, "Next", api.ErrDown)
	wantNone(t, c, "Back", api.ErrDown)
	wantNone(t, behind, "Next", api.ErrDown)
	wantNone(t, behind, "Back", api.ErrDown)
	wantNoRange(t, s.b, root, "", "", 9, api.ErrDown)
	wantNoRange(t, s.b, root, "b", "a", 9, api.ErrDown)
	wantNoRange(t, s.b, root, "", "", 0, api.OK)
	lost := wantNew(t, s.b, root)
	wantSeek(t, lost, keys[7])
	wantNone(t, wantNew(t, s.b, 1), "Next", api.ErrShape) // told without a look at the device
	s.d.Wake(nil)
	wantBetween(t, c, keys, 30)
	wantBetween(t, behind, keys, 31)
	wantBetween(t, lost, keys, 7)
	wantRange(t, s.b, root, keys[30], "", 1, keys[30])
}

func TestFramesThatAreHeld(t *testing.T) {
	s := shelved(t, 300)
	root, keys := grown(t, s.b, rowOf(kinds()["long"], 60)...)
	c := wantNew(t, s.b, root)
	wantSeek(t, c, keys[30])
	for page := 280; page < 288; page++ {
		want(t, "Hold", s.p.Hold(page), api.OK)
	}
	wantNone(t, c, "Next", api.ErrBusy)
	wantNone(t, c, "Back", api.ErrBusy)
	wantNoRange(t, s.b, root, "", "", 9, api.ErrBusy)
	wantNoRange(t, s.b, root, "", "", 0, api.OK)
	wantSeek(t, c, keys[31])
	wantNone(t, c, "Next", api.ErrBusy)
	s.p.Leave(280) // one frame is as many as it takes
	wantBetween(t, c, keys, 31)
	wantAll(t, wantNew(t, s.b, root), keys)
	wantRange(t, s.b, root, "", "", math.MaxInt, keys...)
}

// A way that meets an error further on tells it, and not what came ahead of it; and so it is told each time, till what is wrong is gone.
func TestErrorOnTheWay(t *testing.T) {
	s := shelved(t, 300)
	root, keys := grown(t, s.b, rowOf(kinds()["long"], 30)...)
	_, pages, e := btree.Check(s.b, root)
	want(t, "Check", e, api.OK)
	want(t, "Commit", s.b.Commit(), api.OK)
	met := 0
	for _, page := range pages {
		want(t, "Begin", s.b.Begin(), api.OK)
		was, e := s.b.Page(page)
		want(t, "Page", e, api.OK)
		want(t, "Put", s.b.Put(page, make([]byte, api.BlockSize)), api.OK)
		wantNoRange(t, s.b, root, "", "", math.MaxInt, api.ErrShape)
		for call := range steps {
			c := wantNew(t, s.b, root)
			at := 0
			if call == "Back" {
				wantSeek(t, c, "z")
				at = len(keys)
			}
			for {
				x, is, e := steps[call](c)
				if e == api.OK && is {
					at += map[string]int{"Next": 1, "Back": -1}[call]
					met++
					continue
				}
				if !reflect.DeepEqual(x, api.Cell{}) || is || e != api.ErrShape {
					t.Fatalf("%s = %q, %v, %d", call, x, is, e)
				}
				wantNone(t, c, call, api.ErrShape)
				break
			}
			want(t, "Put", s.b.Put(page, was), api.OK)
			wantBetween(t, c, keys, at)
			want(t, "Put", s.b.Put(page, make([]byte, api.BlockSize)), api.OK)
		}
		want(t, "Abort", s.b.Abort(), api.OK)
	}
	if met == 0 || len(pages) < 8 {
		t.Errorf("%d cells were met on ways over %d pages", met, len(pages))
	}
	wantAll(t, wantNew(t, s.b, root), keys)
}

// Cursors ask within a transaction and without one, and what is undone is gone for them.
func TestWithoutATransaction(t *testing.T) {
	s := shelved(t, 300)
	root, keys := grown(t, s.b, rowOf(kinds()["mixed"], 60)...)
	c := wantNew(t, s.b, root)
	wantSeek(t, c, keys[20])
	want(t, "Commit", s.b.Commit(), api.OK)
	wantBetween(t, c, keys, 20)
	wantRange(t, s.b, root, "", "", 9, keys[:9]...)
	want(t, "Begin", s.b.Begin(), api.OK)
	drop(t, s.b, root, keys[20])
	wantStep(t, c, "Next", keys[21])
	want(t, "Abort", s.b.Abort(), api.OK)
	wantBetween(t, c, keys, 22)
	wantAll(t, wantNew(t, s.b, root), keys)
}

// The calls only read: neither pages nor the log nor the transaction change.
func TestOnlyRead(t *testing.T) {
	s := shelved(t, 300)
	root, keys := grown(t, s.b, rowOf(kinds()["mixed"], 60)...)
	pages := func() [][]byte {
		var out [][]byte
		for page := range s.b.Pages() {
			p, e := s.b.Page(page)
			want(t, "Page", e, api.OK)
			out = append(out, p)
		}
		return out
	}
	was, end, changes := pages(), s.l.End(), s.b.Changes()
	wantAll(t, wantNew(t, s.b, root), keys)
	wantRange(t, s.b, root, "", "", math.MaxInt, keys...)
	wantNone(t, wantNew(t, s.b, 2000), "Next", api.ErrShape)
	if s.l.End() != end || s.b.Changes() != changes || !s.b.In() || !reflect.DeepEqual(pages(), was) {
		t.Error("something has changed")
	}
}

// spare is a row of bytes with spare room, all of which is held against what it was.
func spare(key string) ([]byte, func() bool) {
	b := append(make([]byte, 0, len(key)+20), key...)
	copy(b[len(b):cap(b)], "spare room spare room")
	was := bytes.Clone(b[:cap(b)])
	return b, func() bool { return bytes.Equal(b[:cap(b)], was) }
}

// spoil changes all of a row of bytes, its spare room, too.
func spoil(b []byte) {
	for at := range b[:cap(b)] {
		b[:cap(b)][at] ^= 0x55
	}
}

// R3: what is handed in is neither changed nor kept.
func TestHandedIn(t *testing.T) {
	b := shelved(t, 300).b
	root, keys := grown(t, b, rowOf(kinds()["long"], 40)...)
	c := wantNew(t, b, root)
	for at, key := range keys {
		row, same := spare(key)
		want(t, "Seek", c.Seek(row), api.OK)
		if !same() {
			t.Fatal("Seek has changed what it was handed")
		}
		spoil(row)
		wantBetween(t, c, keys, at)
		from, sameFrom := spare(key)
		to, sameTo := spare(keys[len(keys)-1])
		first, _ := cursor.Range(b, root, from, to, math.MaxInt)
		if !sameFrom() || !sameTo() {
			t.Fatal("Range has changed what it was handed")
		}
		spoil(from)
		spoil(to)
		if len(first) != len(keys)-1-at || len(first) > 0 && string(first[0].Key) != key {
			t.Fatalf("Range tells %q", first)
		}
	}
}

// R3: what is handed out is new, and shares no memory.
func TestHandedOut(t *testing.T) {
	b := shelved(t, 300).b
	root, keys := grown(t, b, rowOf(kinds()["long"], 40)...)
	c := wantNew(t, b, root)
	for at, key := range keys {
		for _, call := range []string{"Next", "Back", "Next"} {
			x, _, _ := steps[call](c)
			spoil(x.Key)
			if string(x.Value) != valueOf(key) {
				t.Fatalf("%s: the key and the value share memory", call)
			}
			spoil(x.Value)
		}
		wantBetween(t, c, keys, at+1)
	}
	row, e := cursor.Range(b, root, nil, nil, math.MaxInt)
	want(t, "Range", e, api.OK)
	for at := range row {
		for _, x := range row[at:] {
			if valueOf(string(x.Key)) != string(x.Value) || !slices.Contains(keys, string(x.Key)) {
				t.Fatalf("the cell %q shares memory with another one", x)
			}
		}
		spoil(row[at].Value)
		if string(row[at].Key) != keys[at] {
			t.Fatalf("the key %q shares memory with its value", row[at].Key)
		}
		spoil(row[at].Key)
	}
	clear(row[:cap(row)])
	wantRange(t, b, root, "", "", math.MaxInt, keys...)
	wantAll(t, wantNew(t, b, root), keys)
}

// Trees that stand beside one another don't meet.
func TestManyTrees(t *testing.T) {
	b := shelved(t, 800).b
	trees := map[int][]string{}
	for _, kind := range kinds() {
		root, keys := grown(t, b, rowOf(kind, 40)...)
		trees[root] = keys
	}
	for range 2 {
		for root, keys := range trees {
			wantAll(t, wantNew(t, b, root), keys)
			wantRange(t, b, root, "", "", math.MaxInt, keys...)
		}
	}
	for _, root := range slices.Sorted(maps.Keys(trees))[1:] {
		want(t, "Drop", btree.Drop(b, root), api.OK)
		roomy(t, b)
		wantNone(t, wantNew(t, b, root), "Next", api.ErrShape)
		delete(trees, root)
	}
	for root, keys := range trees {
		wantAll(t, wantNew(t, b, root), keys)
	}
}
