package change_test

import (
	"bytes"
	"math/rand"
	"slices"
	"testing"

	"parchment/api"
	"parchment/change"
	"parchment/device"
	"parchment/log"
	"parchment/page"
	"parchment/pool"
)

// model is a book in the chapter's words: its pages, its master, and all records that its log must have.
type model struct {
	s      shelf
	frames int
	turn   int64 // the log's
	master change.Master
	logged rows
	oldest int64
	pages  [][]byte

	in      bool
	ending  bool         // a Commit of it has crashed
	began   [][]byte     // the pages when the transaction began
	changes []api.Record // of the transaction
	tx      int64        // its number, as its first record tells it
	prev    int64
	txs     map[int64]bool // the numbers of others
}

func newModel(t *testing.T, blocks, frames int) *model {
	t.Helper()
	d := device.New(blocks)
	if e := change.Format(d); e != api.OK {
		t.Fatal(e)
	}
	return modelOf(opened(t, d, frames, 1, 2), frames, 2)
}

// modelOf is a model of a book whose log has no records.
func modelOf(s shelf, frames int, turn int64) *model {
	m := &model{s: s, frames: frames, turn: turn, oldest: s.l.Oldest(), txs: map[int64]bool{}}
	m.logged.end = m.oldest
	m.master, _ = change.Read(s.d)
	for i := range s.b.Pages() {
		b, _ := s.b.Page(i)
		m.pages = append(m.pages, b)
	}
	return m
}

func (m *model) room() int {
	_, _, _, count := change.Place(m.s.d.Blocks())
	return 408*(count-1) - int(m.logged.end-m.oldest)
}

// expect holds an answer against the words. A call that may write may find the device down: then the model stays as it was.
func (m *model) expect(t *testing.T, call string, got, wanted api.Errno) bool {
	t.Helper()
	if got == api.ErrDown && m.s.d.Down() {
		return false
	}
	want(t, call, got, wanted)
	return got == api.OK
}

func (m *model) begin(t *testing.T) {
	t.Helper()
	e := m.s.b.Begin()
	if m.in {
		want(t, "Begin", e, api.ErrState)
		return
	}
	if !m.expect(t, "Begin", e, api.OK) {
		return
	}
	_, _, _, count := change.Place(m.s.d.Blocks())
	if m.room() < 204*count {
		m.pointed()
	}
	m.in = true
	m.began = slices.Clone(m.pages)
	m.changes, m.tx, m.prev = nil, 0, 0
}

// add puts a record of the transaction behind the others.
func (m *model) add(t *testing.T, r api.Record) {
	t.Helper()
	if m.prev == 0 {
		m.tx = m.s.tx(t, m.logged.end)
		if m.txs[m.tx] {
			t.Fatalf("two transactions of the number %d", m.tx)
		}
		m.txs[m.tx] = true
	}
	r.Tx, r.Prev = m.tx, m.prev
	m.prev = m.logged.add(m.turn, r)
	if r.Kind == api.RecChange {
		m.changes = append(m.changes, m.logged.all[len(m.logged.all)-1])
	}
}

// undoing is the record that undoes a change.
func undoing(r api.Record) api.Record {
	return api.Record{Kind: api.RecUndo, Next: r.Prev, Span: api.Span{Block: r.Span.Block, Off: r.Span.Off, New: r.Span.Old}}
}

func (m *model) put(t *testing.T, at int, data []byte) {
	t.Helper()
	e := m.s.b.Put(at, data)
	switch {
	case !m.in:
		want(t, "Put", e, api.ErrState)
		return
	case at < 0 || at >= len(m.pages):
		want(t, "Put", e, api.ErrNone)
		return
	case len(data) != 512:
		want(t, "Put", e, api.ErrArg)
		return
	}
	need := sized(api.Record{Kind: api.RecAbort})
	for _, r := range m.changes {
		need += sized(undoing(r))
	}
	var records []api.Record
	for _, s := range page.Diff(m.pages[at], data) {
		s.Block = at
		r := api.Record{Kind: api.RecChange, Span: s}
		records = append(records, r)
		need += sized(r) + sized(undoing(r))
	}
	wanted := api.OK
	if need > m.room() {
		wanted = api.ErrFull
	}
	if !m.expect(t, "Put", e, wanted) {
		return
	}
	for _, r := range records {
		m.add(t, r)
	}
	m.pages[at] = slices.Clone(data)
}

func (m *model) commit(t *testing.T) {
	t.Helper()
	e := m.s.b.Commit()
	if !m.in {
		want(t, "Commit", e, api.ErrState)
		return
	}
	if !m.expect(t, "Commit", e, api.OK) {
		m.ending = true
		return
	}
	m.add(t, api.Record{Kind: api.RecCommit})
	m.in = false
	if m.s.l.Safe() != m.s.l.End() {
		t.Fatal("the log is not forced")
	}
}

func (m *model) abort(t *testing.T) {
	t.Helper()
	e := m.s.b.Abort()
	if !m.in {
		want(t, "Abort", e, api.ErrState)
		return
	}
	if !m.expect(t, "Abort", e, api.OK) {
		return
	}
	for _, r := range slices.Backward(m.changes) {
		m.add(t, undoing(r))
	}
	m.add(t, api.Record{Kind: api.RecAbort})
	m.pages = m.began
	m.in = false
}

func (m *model) point(t *testing.T) {
	t.Helper()
	e := m.s.b.Point()
	if m.in {
		want(t, "Point", e, api.ErrState)
		return
	}
	if m.expect(t, "Point", e, api.OK) {
		m.pointed()
	}
}

func (m *model) pointed() {
	m.oldest = m.logged.end
	m.logged.all = nil
	m.master = change.Master{Seq: m.master.Seq + 1, Turn: m.master.Turn, Oldest: m.oldest}
}

// check holds all that is told against the model.
func (m *model) check(t *testing.T) {
	t.Helper()
	changes := 0
	if m.in {
		changes = len(m.changes)
	}
	m.s.wantIn(t, m.in, changes)
	m.s.wantRows(t, m.logged)
	wantRead(t, m.s.d, m.master)
	if m.s.l.Oldest() != m.oldest || m.s.l.Room() != m.room() {
		t.Fatalf("oldest %d, room %d; want %d, %d", m.s.l.Oldest(), m.s.l.Room(), m.oldest, m.room())
	}
	for i, b := range m.pages {
		m.s.wantPage(t, i, b)
	}
}

// bent is a page with some bytes changed: few or many, here or there.
func bent(r *rand.Rand, b []byte) []byte {
	out := slices.Clone(b)
	for range 1 + r.Intn(4) {
		at := r.Intn(512)
		n := 1 + r.Intn(12)
		if r.Intn(12) == 0 {
			n = 512
		}
		for i := at; i < min(at+n, 512); i++ {
			out[i] = byte(r.Intn(4))
		}
	}
	return out
}

// any is a step of a long way.
func (m *model) any(t *testing.T, r *rand.Rand) {
	t.Helper()
	switch n := r.Intn(40); {
	case n < 4:
		m.begin(t)
	case n < 7:
		m.commit(t)
	case n < 10:
		m.abort(t)
	case n < 11:
		m.point(t)
	case n < 12:
		m.put(t, []int{-1, len(m.pages)}[r.Intn(2)], of(1))
	case n < 13:
		m.put(t, r.Intn(len(m.pages)), make([]byte, r.Intn(512)))
	default:
		at := r.Intn(len(m.pages))
		if n < 20 { // few pages are changed more than others
			at %= 3
		}
		m.put(t, at, bent(r, m.pages[at]))
	}
}

func TestLongWays(t *testing.T) {
	for seed := range int64(12) {
		r := rand.New(rand.NewSource(seed))
		m := newModel(t, 24+r.Intn(40), 8+r.Intn(4))
		for range 500 {
			m.any(t, r)
			m.check(t)
		}
	}
}

// Ways on which most transactions go on till the log is full.
func TestLongWaysOfFullLogs(t *testing.T) {
	for seed := range int64(4) {
		r := rand.New(rand.NewSource(seed))
		m := newModel(t, 24, 8)
		for range 25 {
			m.begin(t)
			for range 10 + r.Intn(60) {
				at := r.Intn(len(m.pages))
				m.put(t, at, bent(r, m.pages[at]))
			}
			m.check(t)
			if r.Intn(2) == 0 {
				m.commit(t)
			} else {
				m.abort(t)
			}
			m.check(t)
		}
	}
}

// All short rows of calls.
func TestShortRows(t *testing.T) {
	const calls, length = 7, 5
	d := device.New(24)
	change.Format(d)
	a, b := with(of(0), 9, 1), with(with(of(0), 9, 2), 400, 3)
	total := 1
	for range length {
		total *= calls
	}
	for row := range total {
		m := modelOf(opened(t, d.Copy(), 8, 1, 2), 8, 2)
		left := row
		for range length {
			switch left % calls {
			case 0:
				m.begin(t)
			case 1:
				m.commit(t)
			case 2:
				m.abort(t)
			case 3:
				m.point(t)
			case 4:
				m.put(t, 0, a)
			case 5:
				m.put(t, 0, b)
			case 6:
				m.put(t, 1, b)
			}
			left /= calls
		}
		m.check(t)
	}
}

// restored is a book over a device that has crashed, by the words of chapter 13; none, if it crashes again.
func restored(t *testing.T, d *device.Device, frames int) (shelf, bool) {
	t.Helper()
	ok := func(e api.Errno) bool {
		t.Helper()
		if e == api.ErrDown && d.Down() {
			return false
		}
		want(t, "restoring", e, api.OK)
		return true
	}
	m, e := change.Read(d)
	if !ok(e) {
		return shelf{}, false
	}
	m.Seq++
	m.Turn++
	if !ok(change.Write(d, m)) {
		return shelf{}, false
	}
	first, pages, at, count := change.Place(d.Blocks())
	l, e := log.Open(d, at, count, m.Oldest, m.Turn+1)
	if !ok(e) {
		return shelf{}, false
	}
	p := pool.New(d, l, first, pages, frames)
	var last api.Record
	for _, last = range l.From(l.Oldest()) {
		if last.Kind == api.RecChange || last.Kind == api.RecUndo {
			if !ok(p.Change(last.Span, last.Lsn)) {
				return shelf{}, false
			}
		}
	}
	if !undone(l, p, last, ok) || !ok(l.Force()) {
		return shelf{}, false
	}
	b := change.New(d, l, p)
	if b == nil {
		t.Fatal("no book")
	}
	return shelf{d, l, p, b}, ok(b.Point())
}

// undone undoes the transaction that has no end.
func undone(l *log.Log, p *pool.Pool, last api.Record, ok func(api.Errno) bool) bool {
	next := last.Lsn
	switch last.Kind {
	case api.RecUndo:
		next = last.Next
	case api.RecChange:
	default:
		return true
	}
	prev := last.Lsn
	for next > 0 {
		r, e := l.Read(next)
		if !ok(e) {
			return false
		}
		back := undoing(r)
		back.Tx, back.Prev = last.Tx, prev
		if prev, e = l.Append(back); !ok(e) || !ok(p.Change(back.Span, prev)) {
			return false
		}
		next = r.Prev
	}
	_, e := l.Append(api.Record{Kind: api.RecAbort, Tx: last.Tx, Prev: prev})
	return ok(e)
}

// fates lets some sectors stay of what was not synced.
func fates(r *rand.Rand, d *device.Device) []api.Fate {
	switch r.Intn(4) {
	case 0:
		return nil
	case 1:
		return all(d)
	}
	var out []api.Fate
	for block := range d.Blocks() {
		out = append(out, api.Fate{Block: block, Keep: uint8(r.Intn(256))})
	}
	return out
}

// outcomes are what the pages may be behind a crash: as the transactions made them that were told as done, and, if the one under way was being committed, as it did.
func (m *model) outcomes() [][][]byte {
	switch {
	case !m.in:
		return [][][]byte{m.pages}
	case m.ending:
		return [][][]byte{m.began, m.pages}
	}
	return [][][]byte{m.began}
}

func pagesOf(s shelf) [][]byte {
	var out [][]byte
	for i := range s.b.Pages() {
		b, _ := s.b.Page(i)
		out = append(out, b)
	}
	return out
}

func wantOneOf(t *testing.T, s shelf, want [][][]byte) {
	t.Helper()
	got := pagesOf(s)
	for _, pages := range want {
		if slices.EqualFunc(got, pages, bytes.Equal) {
			return
		}
	}
	for i, b := range got {
		for which, pages := range want {
			for at := range b {
				if b[at] != pages[i][at] {
					t.Errorf("page %d, byte %d: %d; by the outcome %d: %d", i, at, b[at], which, pages[i][at])
					break
				}
			}
		}
	}
	t.Fatal("behind the crash the pages are as they may not be")
}

// Ways with crashes, of restorings, too: all that was committed is there, and of the others nothing is.
func TestLongWaysWithCrashes(t *testing.T) {
	for seed := range int64(30) {
		r := rand.New(rand.NewSource(seed))
		m := newModel(t, 24+r.Intn(30), 8)
		for range 25 {
			d := m.s.d
			d.Arm(1 + r.Intn(70))
			for !d.Down() {
				m.any(t, r)
			}
			may := m.outcomes()
			s, ok := shelf{}, false
			for !ok {
				d.Wake(fates(r, d))
				d.Arm(r.Intn(60)) // 0: it goes through
				s, ok = restored(t, d, 8)
			}
			d.Arm(0)
			wantOneOf(t, s, may)
			master, _ := change.Read(d)
			m = modelOf(s, 8, master.Turn+1)
		}
	}
}

// script is calls of all kinds, till the device is down: pages that are put out in the midst, transactions that are undone, checkpoints.
func (m *model) script(t *testing.T) {
	t.Helper()
	do := func(call func(*testing.T)) {
		if !m.s.d.Down() {
			call(t)
		}
	}
	write := func(n byte, pages ...int) {
		do(m.begin)
		for _, page := range pages {
			data := with(m.pages[page], int(n)*30, bytes.Repeat([]byte{n}, 20)...)
			do(func(t *testing.T) { m.put(t, page, data) })
		}
	}
	write(1, 0, 1, 2, 3, 4, 5, 6, 7, 8, 9)
	do(m.commit)
	write(2, 9, 0, 9)
	do(m.abort)
	write(3, 4)
	do(m.commit)
	do(m.point)
	write(4, 9, 8, 7, 6, 5, 4, 3, 2, 1, 0)
	do(m.abort)
	write(5, 0, 1)
	do(m.commit)
	write(6, 2, 3, 4)
	do(m.commit)
	write(7, 5)
}

// A crash at each write of the script, and at each one of the restoring.
func TestCrashAtEachWrite(t *testing.T) {
	fresh := device.New(24)
	change.Format(fresh)
	r := rand.New(rand.NewSource(1))
	for n := 1; ; n++ {
		d := fresh.Copy()
		m := modelOf(opened(t, d, 8, 1, 2), 8, 2)
		d.Arm(n)
		m.script(t)
		if !d.Down() {
			if n < 40 {
				t.Errorf("the script has %d writes", n-1)
			}
			return
		}
		may := m.outcomes()
		for _, kept := range [][]api.Fate{nil, all(d), fates(r, d), fates(r, d)} {
			for k := 1; ; k++ {
				twin := woken(d, kept)
				twin.Arm(k)
				s, ok := restored(t, twin, 8)
				if ok {
					wantOneOf(t, s, may)
					break
				}
				twin.Wake(fates(r, twin))
				if s, ok = restored(t, twin, 8); !ok {
					t.Fatal("the device is down")
				}
				wantOneOf(t, s, may)
			}
		}
	}
}
