package restore_test

import (
	"bytes"
	"math/rand"
	"slices"
	"testing"

	"parchment/api"
	"parchment/change"
	"parchment/device"
	"parchment/restore"
)

// P13.2, and of the whole P2 and P6 as far as they touch this layer.

// model is what the pages must be: as those transactions made them whose Commit was told as done.
type model struct {
	d      *device.Device
	b      *change.Book
	pages  [][]byte
	now    [][]byte // with what the transaction under way has put
	in     bool
	ending bool // its Commit was under way when the device crashed
}

func newModel(t *testing.T, blocks, frames int) *model {
	t.Helper()
	d := formatted(t, blocks)
	b, _ := opened(t, d, frames)
	m := &model{d: d}
	for range b.Pages() {
		m.pages = append(m.pages, of(0))
	}
	m.goOn(b, m.pages)
	return m
}

// goOn takes a book that Open told, and what its pages are.
func (m *model) goOn(b *change.Book, pages [][]byte) {
	m.b, m.pages, m.now = b, pages, slices.Clone(pages)
	m.in, m.ending = false, false
}

// done is whether a call was done; if not, the device has crashed, and nothing else.
func (m *model) done(t *testing.T, call string, e api.Errno) bool {
	t.Helper()
	if e == api.ErrDown && m.d.Down() {
		return false
	}
	want(t, call, e, api.OK)
	return true
}

func (m *model) begin(t *testing.T) {
	t.Helper()
	if !m.in && m.done(t, "Begin", m.b.Begin()) {
		m.in = true
	}
}

// put is whether the log had room for it.
func (m *model) put(t *testing.T, page int, data []byte) bool {
	t.Helper()
	if !m.in {
		return false
	}
	e := m.b.Put(page, data)
	if e == api.ErrFull || !m.done(t, "Put", e) {
		return false
	}
	m.now[page] = slices.Clone(data)
	return true
}

func (m *model) commit(t *testing.T) {
	t.Helper()
	if !m.in {
		return
	}
	m.ending = true
	if m.done(t, "Commit", m.b.Commit()) {
		m.goOn(m.b, m.now)
	}
}

func (m *model) abort(t *testing.T) {
	t.Helper()
	if m.in && m.done(t, "Abort", m.b.Abort()) {
		m.goOn(m.b, m.pages)
	}
}

func (m *model) point(t *testing.T) {
	t.Helper()
	if !m.in {
		m.done(t, "Point", m.b.Point())
	}
}

// outcomes are what the pages may be behind a crash.
func (m *model) outcomes() [][][]byte {
	if m.ending {
		return [][][]byte{m.pages, m.now}
	}
	return [][][]byte{m.pages}
}

// reopened is Open of a device that has woken; false, if it has crashed again. Whatever it did, it has written no more records than it may.
func reopened(t *testing.T, d *device.Device, frames int) (*change.Book, bool) {
	t.Helper()
	m, e := change.Read(d)
	want(t, "change.Read", e, api.OK)
	was, _ := logged(t, d, m.Oldest)
	b, told, e := restore.Open(d, frames)
	is, _ := logged(t, d, m.Oldest)
	if len(is) > 2*len(was)+1 {
		t.Fatalf("%d records have become %d", len(was), len(is))
	}
	if e == api.ErrDown && d.Down() {
		return nil, false
	}
	want(t, "Open", e, api.OK)
	wantTold(t, told, restore.Told{
		Records:   len(was),
		Redone:    count(was, api.RecChange) + count(was, api.RecUndo),
		Undone:    count(is, api.RecUndo) - count(was, api.RecUndo),
		Committed: count(was, api.RecCommit),
	})
	return b, true
}

func count(records []api.Record, kind api.RecordKind) int {
	n := 0
	for _, r := range records {
		if r.Kind == kind {
			n++
		}
	}
	return n
}

// wantOneOf holds the pages of a book against what they may be, and tells which they are.
func wantOneOf(t *testing.T, b *change.Book, may [][][]byte) [][]byte {
	t.Helper()
	var got [][]byte
	for page := range b.Pages() {
		data, e := b.Page(page)
		want(t, "Page", e, api.OK)
		got = append(got, data)
	}
	for _, pages := range may {
		if slices.EqualFunc(got, pages, bytes.Equal) {
			return pages
		}
	}
	for page, data := range got {
		for which, pages := range may {
			for at := range data {
				if data[at] != pages[page][at] {
					t.Errorf("page %d, byte %d: %d; by the outcome %d: %d", page, at, data[at], which, pages[page][at])
					break
				}
			}
		}
	}
	t.Fatal("behind the crash the pages are as they may not be")
	return nil
}

// anyFates lets some sectors stay of what was not synced.
func anyFates(r *rand.Rand, d *device.Device) []api.Fate {
	switch r.Intn(4) {
	case 0:
		return nil
	case 1:
		return all(d)
	}
	var out []api.Fate
	for block := range d.Blocks() {
		out = append(out, api.Fate{Block: block, Keep: uint8(r.Intn(256))})
	}
	return out
}

// bent is a page with some bytes changed: few or many, here or there.
func bent(r *rand.Rand, b []byte) []byte {
	out := slices.Clone(b)
	for range 1 + r.Intn(4) {
		at := r.Intn(512)
		n := 1 + r.Intn(12)
		if r.Intn(12) == 0 {
			n = 512
		}
		for i := at; i < min(at+n, 512); i++ {
			out[i] = byte(r.Intn(4))
		}
	}
	return out
}

// any is a step of a long way.
func (m *model) any(t *testing.T, r *rand.Rand) {
	t.Helper()
	switch n := r.Intn(40); {
	case n < 5:
		m.begin(t)
	case n < 8:
		m.commit(t)
	case n < 10:
		m.abort(t)
	case n < 11:
		m.point(t)
	default:
		page := r.Intn(len(m.pages))
		if n < 20 { // few pages are changed more than others
			page %= 3
		}
		m.put(t, page, bent(r, m.now[page]))
	}
}

// restored wakes the device, and opens it as often as it takes.
func (m *model) restored(t *testing.T, r *rand.Rand) {
	t.Helper()
	may := m.outcomes()
	for {
		m.d.Wake(anyFates(r, m.d))
		m.d.Arm(r.Intn(50)) // 0: it goes through
		if b, ok := reopened(t, m.d, 8+r.Intn(8)); ok {
			m.d.Arm(0)
			m.goOn(b, wantOneOf(t, b, may))
			return
		}
	}
}

// Ways with crashes, within Open, too.
func TestLongWaysWithCrashes(t *testing.T) {
	for seed := range int64(60) {
		r := rand.New(rand.NewSource(seed))
		m := newModel(t, 24+r.Intn(40), 8)
		for range 30 {
			m.d.Arm(1 + r.Intn(70))
			for !m.d.Down() {
				m.any(t, r)
			}
			m.restored(t, r)
		}
	}
}

// Ways on which transactions go on till the log is full: there is always room for undoing them.
func TestLongWaysOfFullLogs(t *testing.T) {
	for seed := range int64(40) {
		r := rand.New(rand.NewSource(seed))
		m := newModel(t, 24+r.Intn(4), 8)
		for range 20 {
			m.d.Arm(1 + r.Intn(120))
			for !m.d.Down() {
				m.begin(t)
				full := 0
				for full < 5 && !m.d.Down() {
					page := r.Intn(len(m.pages))
					if !m.put(t, page, bent(r, m.now[page])) {
						full++
					}
				}
				if m.d.Down() {
					break
				}
				if r.Intn(2) == 0 {
					m.commit(t)
				} else {
					m.abort(t)
				}
			}
			m.restored(t, r)
		}
	}
}

// script is calls of all kinds, till the device is down: pages that are put out in the midst, transactions that are undone, checkpoints.
func (m *model) script(t *testing.T) {
	t.Helper()
	write := func(n byte, pages ...int) {
		if m.d.Down() {
			return
		}
		m.begin(t)
		for _, page := range pages {
			if !m.d.Down() {
				m.put(t, page, with(m.now[page], int(n)*30, bytes.Repeat([]byte{n}, 20)...))
			}
		}
	}
	end := func(call func(*testing.T)) {
		if !m.d.Down() {
			call(t)
		}
	}
	write(1, 0, 1, 2, 3, 4, 5, 6, 7, 8, 9)
	end(m.commit)
	write(2, 9, 0, 9)
	end(m.abort)
	write(3, 4)
	end(m.commit)
	end(m.point)
	write(4, 9, 8, 7, 6, 5, 4, 3, 2, 1, 0)
	end(m.abort)
	write(5, 0, 1)
	end(m.commit)
	write(6, 2, 3, 4)
	end(m.commit)
	write(7, 5)
}

// A crash at each write of the script, at each one of Open behind that, and at some of the Open behind that one.
func TestCrashAtEachWrite(t *testing.T) {
	r := rand.New(rand.NewSource(1))
	for n := 1; ; n++ {
		m := newModel(t, 24, 8)
		m.d.Arm(n)
		m.script(t)
		if !m.d.Down() {
			if n < 40 {
				t.Errorf("the script has %d writes", n-1)
			}
			return
		}
		for _, kept := range [][]api.Fate{nil, all(m.d), anyFates(r, m.d), anyFates(r, m.d)} {
			crashAtEachWriteOfOpen(t, r, woken(m.d, kept), m.outcomes())
		}
	}
}

func crashAtEachWriteOfOpen(t *testing.T, r *rand.Rand, d *device.Device, may [][][]byte) {
	t.Helper()
	for k := 1; ; k++ {
		twin := d.Copy()
		twin.Arm(k)
		b, ok := reopened(t, twin, 8)
		if ok {
			wantOneOf(t, b, may)
			return
		}
		for _, kept := range [][]api.Fate{nil, all(twin), anyFates(r, twin)} {
			again := woken(twin, kept)
			again.Arm(1 + r.Intn(12))
			b, ok := reopened(t, again, 9)
			if !ok {
				again.Wake(anyFates(r, again))
				if b, ok = reopened(t, again, 8); !ok {
					t.Fatal("the device is down")
				}
			}
			wantOneOf(t, b, may)
		}
	}
}

// great is a device whose log has a transaction of many pages, full of changes, that has no end.
func great(t *testing.T, r *rand.Rand) *device.Device {
	t.Helper()
	m := newModel(t, 60, 8)
	m.begin(t)
	for full := 0; full < 20; {
		page := r.Intn(len(m.pages))
		if !m.put(t, page, bent(r, m.now[page])) {
			full++
		}
	}
	return woken(m.d, all(m.d))
}

// However often Open crashes, each change is undone by one record at most, and in the end all of them are.
func TestOpenThatCrashesAgainAndAgain(t *testing.T) {
	for seed := range int64(10) {
		r := rand.New(rand.NewSource(seed))
		d := great(t, r)
		m, _ := change.Read(d)
		none := make([][]byte, 28)
		for page := range none {
			none[page] = of(0)
		}
		for n := 1; ; n++ {
			d.Arm(n)
			if b, ok := reopened(t, d, 8); ok {
				wantOneOf(t, b, [][][]byte{none})
				break
			}
			d.Wake(anyFates(r, d))
		}
		records, _ := logged(t, d, m.Oldest)
		wantUndoneOnce(t, records)
	}
}

// wantUndoneOnce holds the records of one transaction against the words: changes, then for each one from the last on a RecUndo, then RecAbort, each of which names the one ahead.
func wantUndoneOnce(t *testing.T, records []api.Record) {
	t.Helper()
	changes := len(records) / 2
	if changes < 20 || len(records) != 2*changes+1 {
		t.Fatalf("%d records", len(records))
	}
	prev := int64(0)
	for i, r := range records {
		kind, next := api.RecChange, int64(0)
		if i >= changes {
			kind = api.RecUndo
		}
		if i == 2*changes {
			kind = api.RecAbort
		}
		if kind == api.RecUndo {
			done := records[2*changes-1-i]
			next = done.Prev
			if r.Span.Block != done.Span.Block || r.Span.Off != done.Span.Off || !bytes.Equal(r.Span.New, done.Span.Old) {
				t.Fatalf("record %d: %+v undoes %+v", i, r, done)
			}
		}
		if r.Kind != kind || r.Tx != records[0].Tx || r.Prev != prev || r.Next != next {
			t.Fatalf("record %d: %+v", i, r)
		}
		prev = r.Lsn
	}
}

// A transaction that has taken all room but what is kept for its end: undoing it fills the log to the last byte.
func TestOpenFillsTheLog(t *testing.T) {
	d := formatted(t, 24)
	s := byHand(t, d)
	want(t, "Begin", s.b.Begin(), api.OK)
	for page, n := range []int{512, 512, 100, 235} {
		put(t, s.b, page, with(of(0), 0, of(1)[:n]...))
	}
	want(t, "Put", s.b.Put(4, with(of(0), 7, 1)), api.ErrFull)
	s.force(t)
	d.Wake(nil)
	b, ok := reopened(t, d, 8)
	if !ok {
		t.Fatal("the device is down")
	}
	for page := range b.Pages() {
		wantPage(t, b, page, of(0))
	}
	records, end := logged(t, d, 1)
	if len(records) != 9 || records[8].Kind != api.RecAbort || end != 1+408*11 {
		t.Errorf("%d records, up to %d", len(records), end)
	}
}

// A Commit that could not be forced has taken the room that was kept for a last record, and undoing takes the rest; Open is not told that the log is full.
func TestOpenOfALogThatIsFull(t *testing.T) {
	for left := range 71 {
		d := formatted(t, 24)
		b, _ := opened(t, d, 8)
		want(t, "Begin", b.Begin(), api.OK)
		// Each change of n bytes takes 43 + 2n, and 51 + n to be undone; the last record 35.
		rest := 408*11 - 35 - left - 2*(94+3*512)
		for ; rest%3 != 188%3; rest -= 94 + 3 {
			put(t, b, 4, with(page(t, b, 4), rest%500, 1))
		}
		put(t, b, 0, of(1))
		put(t, b, 1, of(1))
		put(t, b, 2, with(of(0), 0, of(1)[:100]...))
		put(t, b, 3, with(of(0), 0, of(1)[:(rest-188)/3-100]...))
		d.Arm(1)
		want(t, "Commit", b.Commit(), api.ErrDown)
		want(t, "Abort", b.Abort(), api.OK)
		d.Wake(nil)
		d.Arm(14) // the log is forced, and the pages are being written
		want(t, "Begin", b.Begin(), api.ErrDown)
		d.Wake(nil)
		_, end := logged(t, d, 1)
		last := 0
		if left >= 35 {
			last = 35
		}
		if room := 1 + 408*11 - int(end); room != left-last {
			t.Fatalf("%d bytes are left; want %d", room, left-last)
		}
		for n, whole := 1, false; !whole; n++ {
			twin := d.Copy()
			twin.Arm(n)
			b, whole = reopened(t, twin, 8)
			if !whole {
				twin.Wake(nil)
				b, _ = reopened(t, twin, 8)
			}
			twin.Arm(0)
			for page := range b.Pages() {
				wantPage(t, b, page, of(0))
			}
			committed(t, b, 0, of(9))
		}
	}
}

func page(t *testing.T, b *change.Book, number int) []byte {
	t.Helper()
	out, e := b.Page(number)
	want(t, "Page", e, api.OK)
	return out
}
