package cursor_test

import (
	"maps"
	"math/rand"
	"slices"
	"strings"
	"testing"

	"parchment/api"
	"parchment/btree"
	"parchment/change"
	"parchment/cursor"
	"parchment/device"
	"parchment/restore"
	"parchment/space"
)

// P16.1 to P16.4 along long ways, in which trees grow and shrink, are dropped and undone, below the cursors that look at them, and the device crashes.

// plain are trees in the chapter's words: their cells, by their roots.
type plain map[int]map[string]string

func (p plain) copy() plain {
	out := plain{}
	for root, cells := range p {
		out[root] = maps.Clone(cells)
	}
	return out
}

// mark is a cursor, and where its cut must be.
type mark struct {
	c      *cursor.Cursor
	root   int
	key    string
	behind bool
}

// ahead is how many of the keys lie ahead of its cut.
func (m *mark) ahead(keys []string) int {
	n := 0
	for _, key := range keys {
		if key < m.key || key == m.key && m.behind {
			n++
		}
	}
	return n
}

// way is calls in a row, over a book, what its trees must be, and cursors.
type way struct {
	r      *rand.Rand
	d      *device.Device
	b      *change.Book
	safe   plain // behind what was committed
	now    plain
	marks  []*mark
	puts   int  // of ten steps with a cell, how many are Puts
	ending bool // a Commit was under way when the device crashed
	full   bool // the log, or the space: the transaction is to be undone
}

func newWay(t *testing.T, seed int64, pages int) *way {
	t.Helper()
	w := &way{r: rand.New(rand.NewSource(seed)), d: device.New(2 * (pages + 2)), safe: plain{}, puts: 6}
	want(t, "change.Format", change.Format(w.d), api.OK)
	b, _, e := restore.Open(w.d, 8)
	want(t, "Open", e, api.OK)
	w.b = b
	want(t, "Begin", w.b.Begin(), api.OK)
	want(t, "space.Format", space.Format(w.b), api.OK)
	want(t, "Commit", w.b.Commit(), api.OK)
	w.now = w.safe.copy()
	return w
}

// done is whether a call is told OK; else the device has crashed, or the log or the space is full.
func (w *way) done(t *testing.T, call string, e api.Errno) bool {
	t.Helper()
	if e == api.ErrDown && w.d.Down() {
		return false
	}
	if e == api.ErrFull && w.b.In() {
		w.full = true
		return false
	}
	want(t, call, e, api.OK)
	return true
}

// root is any tree's.
func (w *way) root() int {
	roots := slices.Sorted(maps.Keys(w.now))
	return roots[w.r.Intn(len(roots))]
}

// key is one of those that a tree has, or any one; short and long ones, of which many begin alike.
func (w *way) key(root int) string {
	if keys := slices.Sorted(maps.Keys(w.now[root])); len(keys) > 0 && w.r.Intn(3) == 0 {
		return keys[w.r.Intn(len(keys))]
	}
	out := strings.Repeat(string(rune('a'+w.r.Intn(2))), []int{0, 1, 40, 156, 156, 156}[w.r.Intn(6)])
	for range 1 + w.r.Intn(4) {
		out += string([]byte{byte(w.r.Intn(256))})
	}
	return out
}

func (w *way) put(t *testing.T) {
	t.Helper()
	root := w.root()
	key := w.key(root)
	value := strings.Repeat(string([]byte{byte(w.r.Intn(256))}), w.r.Intn(api.MaxCell-len(key)+1))
	to, e := btree.Put(w.b, root, []byte(key), []byte(value))
	if w.done(t, "Put", e) {
		w.now[root][key] = value
		if to != root {
			t.Fatalf("Put has moved the root %d to %d", root, to)
		}
	}
}

func (w *way) delete(t *testing.T) {
	t.Helper()
	root := w.root()
	key := w.key(root)
	to, _, e := btree.Delete(w.b, root, []byte(key))
	if w.done(t, "Delete", e) {
		delete(w.now[root], key)
		if to != root {
			t.Fatalf("Delete has moved the root %d to %d", root, to)
		}
	}
}

func (w *way) tree(t *testing.T) {
	t.Helper()
	if root, e := btree.New(w.b); w.done(t, "btree.New", e) {
		w.now[root] = map[string]string{}
	}
}

func (w *way) dropTree(t *testing.T) {
	t.Helper()
	if root := w.root(); w.done(t, "Drop", btree.Drop(w.b, root)) {
		delete(w.now, root)
	}
}

// change is any call that changes something; behind one that found no room the transaction is undone.
func (w *way) change(t *testing.T) {
	t.Helper()
	switch n := w.r.Intn(100); {
	case !w.b.In():
		w.done(t, "Begin", w.b.Begin())
	case w.full || n < 2:
		if w.done(t, "Abort", w.b.Abort()) {
			w.now, w.full = w.safe.copy(), false
			w.puts = 2 + w.r.Intn(7)
		}
	case n < 12 || w.b.Changes() > 60:
		w.ending = true
		if w.done(t, "Commit", w.b.Commit()) {
			w.safe, w.ending = w.now.copy(), false
		}
	case len(w.now) == 0 || n < 14 && len(w.now) < 4:
		w.tree(t)
	case n < 15:
		w.dropTree(t)
	case n < 16:
		w.puts = 2 + w.r.Intn(7)
	case n%10 < w.puts:
		w.put(t)
	default:
		w.delete(t)
	}
}

// wantCell holds what was told against what the cell is that lies between so many others; told is whether it is this.
func (w *way) wantCell(t *testing.T, m *mark, call string, keys []string, at int) bool {
	t.Helper()
	x, is, e := steps[call](m.c)
	if e != api.OK && (is || len(x.Key) > 0 || len(x.Value) > 0) {
		t.Fatalf("%s = %q, %v, %d", call, x, is, e)
	}
	cells, isTree := w.now[m.root]
	switch {
	case e == api.ErrDown && w.d.Down():
		return false
	case !isTree:
		want(t, call, e, api.ErrShape)
		return false
	}
	want(t, call, e, api.OK)
	if must := at >= 0 && at < len(keys); is != must {
		t.Fatalf("%s = %q, %v; want %v", call, x, is, must)
	}
	if is && (string(x.Key) != keys[at] || string(x.Value) != cells[keys[at]]) {
		t.Fatalf("%s = %q; want %q, %q", call, x, keys[at], cells[keys[at]])
	}
	return is
}

// ask is some calls of a cursor, or a Range.
func (w *way) ask(t *testing.T) {
	t.Helper()
	if len(w.marks) < 5 && len(w.now) > 0 {
		root := w.root()
		w.marks = append(w.marks, &mark{c: wantNew(t, w.b, root), root: root})
	}
	if len(w.marks) == 0 {
		return
	}
	i := w.r.Intn(len(w.marks))
	m := w.marks[i]
	keys := slices.Sorted(maps.Keys(w.now[m.root]))
	switch n := w.r.Intn(40); {
	case n == 0:
		w.marks = slices.Delete(w.marks, i, i+1)
	case n < 8:
		m.key, m.behind = w.key(m.root), false
		if n < 3 {
			m.key = ""
		}
		wantSeek(t, m.c, m.key)
	case n < 14:
		w.rangeOf(t, m.root, keys)
	default:
		call := []string{"Next", "Back"}[n%2]
		for range 1 + w.r.Intn(6) {
			at := m.ahead(keys) - n%2
			if w.wantCell(t, m, call, keys, at) {
				m.key, m.behind = keys[at], call == "Next"
			}
		}
	}
}

func (w *way) rangeOf(t *testing.T, root int, keys []string) {
	t.Helper()
	from, to := w.key(root), w.key(root)
	if w.r.Intn(4) == 0 {
		to = ""
	}
	most := []int{0, 1, w.r.Intn(20), 1000}[w.r.Intn(4)]
	row, e := cursor.Range(w.b, root, []byte(from), []byte(to), most)
	if e == api.ErrDown && w.d.Down() {
		return
	}
	if _, is := w.now[root]; !is && most > 0 {
		want(t, "Range", e, api.ErrShape)
		return
	}
	want(t, "Range", e, api.OK)
	same := slices.EqualFunc(row, within(keys, from, to, most), func(x api.Cell, key string) bool {
		return string(x.Key) == key && string(x.Value) == w.now[root][key]
	})
	if !same {
		t.Fatalf("Range(%q, %q, %d) = %q", from, to, most, row)
	}
}

// wantSame holds all trees against what they must be.
func (w *way) wantSame(t *testing.T) {
	t.Helper()
	if !w.same() {
		t.Fatalf("the trees are none of %v", w.now)
	}
}

func (w *way) same() bool {
	for root, cells := range w.now {
		row, e := cursor.Range(w.b, root, nil, nil, 100000)
		if e != api.OK || len(row) != len(cells) {
			return false
		}
		for at, key := range slices.Sorted(maps.Keys(cells)) {
			if string(row[at].Key) != key || string(row[at].Value) != cells[key] {
				return false
			}
		}
	}
	return true
}

// wake opens the book behind a crash, as often as it takes; its trees are those that were committed last, or those whose Commit was under way. The cursors are made anew.
func (w *way) wake(t *testing.T) {
	t.Helper()
	for {
		var fates []api.Fate
		for block := range w.d.Blocks() {
			fates = append(fates, api.Fate{Block: block, Keep: uint8(w.r.Intn(256))})
		}
		w.d.Wake(fates)
		w.d.Arm(w.r.Intn(40)) // 0: it goes through
		b, _, e := restore.Open(w.d, 8)
		if e == api.ErrDown {
			continue
		}
		want(t, "Open", e, api.OK)
		w.d.Arm(0)
		w.b = b
		break
	}
	if !w.ending || !w.same() {
		w.now = w.safe.copy()
	}
	w.safe, w.ending, w.full = w.now.copy(), false, false
	w.marks = nil
	w.wantSame(t)
}

// step changes something, or asks; what is half changed is not asked.
func (w *way) step(t *testing.T) {
	t.Helper()
	if w.full || w.r.Intn(2) == 0 {
		w.change(t)
	} else {
		w.ask(t)
	}
}

func TestLongWays(t *testing.T) {
	for seed := range int64(24) {
		w := newWay(t, seed, []int{20, 36, 150, 400}[seed%4])
		for i := range 3000 {
			w.step(t)
			if i%100 == 0 && !w.full {
				w.wantSame(t)
			}
		}
	}
}

func TestLongWaysWithCrashes(t *testing.T) {
	for seed := range int64(16) {
		w := newWay(t, 100+seed, []int{20, 36, 150, 400}[seed%4])
		for range 25 {
			w.d.Arm(1 + w.r.Intn(60))
			for !w.d.Down() {
				w.step(t)
			}
			w.wake(t)
		}
	}
}
