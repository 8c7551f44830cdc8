package change_test

import (
	"bytes"
	"math"
	"reflect"
	"slices"
	"testing"

	"parchment/api"
	"parchment/change"
	"parchment/device"
	"parchment/log"
	"parchment/page"
	"parchment/pool"
)

// shelf is a book and all that it is of.
type shelf struct {
	d *device.Device
	l *log.Log
	p *pool.Pool
	b *change.Book
}

func begun(t *testing.T, blocks, frames int) shelf {
	t.Helper()
	d := device.New(blocks)
	if e := change.Format(d); e != api.OK {
		t.Fatal(e)
	}
	return opened(t, d, frames, 1, 2)
}

// opened is a book over what a device has, with no look at its log.
func opened(t *testing.T, d *device.Device, frames int, oldest, turn int64) shelf {
	t.Helper()
	first, pages, at, count := change.Place(d.Blocks())
	l, e := log.Open(d, at, count, oldest, turn)
	if e != api.OK {
		t.Fatal(e)
	}
	p := pool.New(d, l, first, pages, frames)
	b := change.New(d, l, p)
	if b == nil {
		t.Fatal("no book")
	}
	return shelf{d, l, p, b}
}

// with is a page's bytes with others in them.
func with(b []byte, off int, others ...byte) []byte {
	out := slices.Clone(b)
	copy(out[off:], others)
	return out
}

func want(t *testing.T, call string, got, want api.Errno) {
	t.Helper()
	if got != want {
		t.Fatalf("%s = %d; want %d", call, got, want)
	}
}

func (s shelf) begin(t *testing.T) {
	t.Helper()
	want(t, "Begin", s.b.Begin(), api.OK)
}

func (s shelf) put(t *testing.T, page int, data []byte) {
	t.Helper()
	want(t, "Put", s.b.Put(page, data), api.OK)
}

func (s shelf) commit(t *testing.T) {
	t.Helper()
	want(t, "Commit", s.b.Commit(), api.OK)
}

func (s shelf) abort(t *testing.T) {
	t.Helper()
	want(t, "Abort", s.b.Abort(), api.OK)
}

func (s shelf) point(t *testing.T) {
	t.Helper()
	want(t, "Point", s.b.Point(), api.OK)
}

func (s shelf) wantPage(t *testing.T, page int, want []byte) {
	t.Helper()
	if b, e := s.b.Page(page); e != api.OK || !bytes.Equal(b, want) {
		t.Fatalf("Page(%d) = %v, %d; want %v", page, b, e, want)
	}
}

func (s shelf) wantIn(t *testing.T, in bool, changes int) {
	t.Helper()
	if s.b.In() != in || s.b.Changes() != changes {
		t.Fatalf("In, Changes = %v, %d; want %v, %d", s.b.In(), s.b.Changes(), in, changes)
	}
}

// look is all that later calls could tell, but for pages.
type look struct {
	in, down          bool
	changes           int
	oldest, end, safe int64
	dirty             []api.Dirty
	master            change.Master
}

func (s shelf) look() look {
	m, _ := change.Read(woken(s.d, all(s.d)))
	return look{s.b.In(), s.d.Down(), s.b.Changes(), s.l.Oldest(), s.l.End(), s.l.Safe(), s.p.Dirty(), m}
}

// wantNothing holds what is told ahead of a call against what is told behind it.
func (s shelf) wantNothing(t *testing.T, call string, do func() api.Errno, e api.Errno) {
	t.Helper()
	was := s.look()
	want(t, call, do(), e)
	if is := s.look(); !reflect.DeepEqual(is, was) {
		t.Fatalf("%s = %d: %+v was %+v", call, e, is, was)
	}
}

// leave lets the log have just so many bytes of room, by records of somebody else's.
func (s shelf) leave(t *testing.T, room int) {
	t.Helper()
	for s.l.Room() != room {
		over := s.l.Room() - room
		r := api.Record{Kind: api.RecUndo, Tx: 1 << 60, Span: api.Span{New: make([]byte, 512)}}
		switch {
		case over == 35:
			r = api.Record{Kind: api.RecCommit, Tx: 1 << 60}
		case over >= 52 && over <= 563:
			r.Span.New = make([]byte, over-51)
		case over > 563 && over < 700:
			r.Span.New = make([]byte, 100)
		case over < 563:
			t.Fatalf("no record has %d bytes", over)
		}
		if _, e := s.l.Append(r); e != api.OK {
			t.Fatal(e)
		}
	}
}

// rows are records as they stand in a log.
type rows struct {
	all []api.Record
	end int64
}

// sized is how many bytes a record has.
func sized(r api.Record) int {
	r.Lsn, r.Turn = 1, 1
	b, _ := log.Put(r)
	return len(b)
}

// add puts a record behind the others, and tells its lsn.
func (r *rows) add(turn int64, x api.Record) int64 {
	x.Lsn, x.Turn = r.end, turn
	r.all = append(r.all, x)
	r.end += int64(sized(x))
	return x.Lsn
}

func (s shelf) wantRows(t *testing.T, want rows) {
	t.Helper()
	if got := s.l.From(s.l.Oldest()); len(got) != len(want.all) || len(got) > 0 && !reflect.DeepEqual(got, want.all) || s.l.End() != want.end {
		t.Fatalf("the log has, up to %d,\n%+v; want, up to %d,\n%+v", s.l.End(), got, want.end, want.all)
	}
}

// tx is the number of the transaction that a record is of.
func (s shelf) tx(t *testing.T, lsn int64) int64 {
	t.Helper()
	r, e := s.l.Read(lsn)
	if e != api.OK {
		t.Fatal(e)
	}
	return r.Tx
}

// The chapter's example.
func TestExample(t *testing.T) {
	s := begun(t, 24, 8)
	s.begin(t)
	s.put(t, 0, with(of(0), 5, 7))
	s.commit(t)
	s.wantPage(t, 0, with(of(0), 5, 7))
	s.begin(t)
	s.put(t, 0, of(0))
	s.wantPage(t, 0, of(0))
	s.abort(t)
	s.wantPage(t, 0, with(of(0), 5, 7))
}

// P12.3.

func TestNewRefuses(t *testing.T) {
	s := begun(t, 24, 8)
	sleeping := begun(t, 24, 8)
	crash(sleeping.d)
	few := device.New(23)
	few.Write(1, laid(change.Master{Seq: 1, Turn: 1, Oldest: 1}))
	fewer, _ := log.Open(few, 12, 11, 1, 2)
	pages := func(n int) *pool.Pool { return pool.New(s.d, s.l, 2, n, 8) }
	for i, c := range []struct {
		d *device.Device
		l *log.Log
		p *pool.Pool
	}{
		{nil, s.l, s.p}, {&device.Device{}, s.l, s.p}, {device.New(24), s.l, s.p}, {used(t, 24), s.l, s.p},
		{sleeping.d, sleeping.l, sleeping.p},
		{few, fewer, pool.New(few, fewer, 2, 10, 8)}, {few, fewer, pool.New(few, fewer, 2, 1, 8)}, {few, fewer, nil},
		{s.d, nil, s.p}, {s.d, &log.Log{}, s.p}, {s.d, s.l, nil}, {s.d, s.l, &pool.Pool{}}, {s.d, nil, nil}, {nil, nil, nil},
		{s.d, s.l, pages(9)}, {s.d, s.l, pages(11)}, {s.d, s.l, pages(1)}, {s.d, s.l, pages(22)},
	} {
		if change.New(c.d, c.l, c.p) != nil {
			t.Errorf("case %d: a book", i)
		}
	}
}

func TestNew(t *testing.T) {
	for _, blocks := range []int{24, 25, 99, 5000} {
		for _, frames := range []int{8, 1024} {
			s := begun(t, blocks, frames)
			s.wantIn(t, false, 0)
			if _, pages, _, _ := change.Place(blocks); s.b.Pages() != pages {
				t.Errorf("%d blocks: %d pages", blocks, s.b.Pages())
			}
		}
	}
	s := begun(t, 24, 8)
	was := s.look()
	if change.New(s.d, s.l, s.p) == nil || !reflect.DeepEqual(s.look(), was) {
		t.Error("New has changed something")
	}
}

func TestStates(t *testing.T) {
	s := begun(t, 24, 8)
	data := of(1)
	for range 3 {
		s.wantIn(t, false, 0)
		for _, page := range []int{0, -1, 10} {
			s.wantNothing(t, "Put", func() api.Errno { return s.b.Put(page, data) }, api.ErrState)
			s.wantNothing(t, "Put", func() api.Errno { return s.b.Put(page, data[1:]) }, api.ErrState)
		}
		s.wantNothing(t, "Commit", s.b.Commit, api.ErrState)
		s.wantNothing(t, "Abort", s.b.Abort, api.ErrState)
		s.begin(t)
		s.wantIn(t, true, 0)
		s.wantNothing(t, "Begin", s.b.Begin, api.ErrState)
		s.wantNothing(t, "Point", s.b.Point, api.ErrState)
		s.put(t, 3, data)
		s.wantIn(t, true, 1)
		s.wantNothing(t, "Begin", s.b.Begin, api.ErrState)
		s.wantNothing(t, "Point", s.b.Point, api.ErrState)
		s.commit(t)
		s.wantIn(t, false, 0)
		s.begin(t)
		s.wantIn(t, true, 0)
		s.put(t, 3, with(with(data, 9, 99), 90, 99))
		s.wantIn(t, true, 2)
		s.abort(t)
		s.wantIn(t, false, 0)
		s.point(t)
		data = with(data, 9, data[9]+1)
	}
}

// ErrState is told though the device is down.
func TestStatesOfADeviceThatIsDown(t *testing.T) {
	s := begun(t, 24, 8)
	crash(s.d)
	s.wantNothing(t, "Put", func() api.Errno { return s.b.Put(0, of(1)) }, api.ErrState)
	s.wantNothing(t, "Commit", s.b.Commit, api.ErrState)
	s.wantNothing(t, "Abort", s.b.Abort, api.ErrState)
	s.begin(t) // there is room: nothing is to be written
	s.wantNothing(t, "Begin", s.b.Begin, api.ErrState)
	s.wantNothing(t, "Point", s.b.Point, api.ErrState)
}

// A checkpoint is taken, if there is less room than 204 bytes for each block of the log.
func TestBeginMakesRoom(t *testing.T) {
	for _, blocks := range []int{24, 25, 40, 101} {
		_, _, _, count := change.Place(blocks)
		for over := -60; over <= 60; over++ {
			if d := 408*(count-1) - 204*count - over; d < 52 && d != 35 && d != 0 {
				continue
			}
			s := begun(t, blocks, 8)
			s.leave(t, 204*count+over)
			end := s.l.End()
			s.begin(t)
			s.wantIn(t, true, 0)
			m := change.Master{Seq: 1, Turn: 1, Oldest: 1}
			if over < 0 {
				m = change.Master{Seq: 2, Turn: 1, Oldest: end}
			}
			wantRead(t, s.d, m)
			if s.l.Oldest() != m.Oldest || s.l.End() != end {
				t.Fatalf("%d blocks, %d bytes over: oldest %d, end %d", blocks, over, s.l.Oldest(), s.l.End())
			}
		}
	}
}

// It is the log's own blocks that count.
func TestBeginOfAnotherLog(t *testing.T) {
	for over := -1; over <= 1; over++ {
		d := device.New(24)
		change.Format(d)
		l, _ := log.Open(d, 12, 4, 1, 2)
		p := pool.New(d, l, 2, 10, 8)
		s := shelf{d, l, p, change.New(d, l, p)}
		s.leave(t, 204*4+over)
		s.begin(t)
		if taken := s.l.Oldest() > 1; taken != (over < 0) {
			t.Errorf("%d bytes over: a checkpoint: %v", over, taken)
		}
	}
}

func TestBeginThatCanMakeNoRoom(t *testing.T) {
	s := begun(t, 24, 8)
	s.begin(t)
	s.put(t, 0, of(1))
	s.commit(t)
	s.leave(t, 204*12-1)
	twin := s.d.Copy()
	crash(s.d)
	s.wantNothing(t, "Begin", s.b.Begin, api.ErrDown)
	s.wantIn(t, false, 0)
	s.d.Wake(all(s.d))
	if !same(s.d, twin) {
		t.Error("the device has changed")
	}
	s.d.Arm(3)
	want(t, "Begin", s.b.Begin(), api.ErrDown)
	s.wantIn(t, false, 0)
	s.d.Wake(nil)
	s.begin(t)
	s.wantIn(t, true, 0)

	s = begun(t, 24, 8)
	change.Write(s.d, change.Master{Seq: 1 << 61, Turn: 1, Oldest: 1})
	s.begin(t)
	s.put(t, 0, of(1))
	s.abort(t)
	s.leave(t, 204*12-1)
	s.wantNothing(t, "Begin", s.b.Begin, api.ErrFull)
	s.wantIn(t, false, 0)
}

// P12.4.

func TestPage(t *testing.T) {
	s := begun(t, 40, 8)
	s.begin(t)
	for page := range 18 {
		s.put(t, page, with(of(0), page, 7))
	}
	s.commit(t)
	for page := range 18 {
		s.wantPage(t, page, with(of(0), page, 7))
	}
	for _, page := range []int{-1, 18, 19, math.MinInt, math.MaxInt} {
		if b, e := s.b.Page(page); len(b) > 0 || e != api.ErrNone {
			t.Errorf("Page(%d) = %v, %d", page, b, e)
		}
	}
	for page := range 8 {
		s.p.Hold(page)
	}
	if b, e := s.b.Page(9); len(b) > 0 || e != api.ErrBusy {
		t.Errorf("Page = %v, %d", b, e)
	}
	s.p.Leave(0)
	crash(s.d)
	if b, e := s.b.Page(9); len(b) > 0 || e != api.ErrDown {
		t.Errorf("Page = %v, %d", b, e)
	}
	s.wantPage(t, 1, with(of(0), 1, 7))
}

// Each span of the two pages has its record, and those are a chain.
func TestPutIsLogged(t *testing.T) {
	s := begun(t, 24, 8)
	s.begin(t)
	first := with(of(0), 3, 1, 2, 3)
	first = with(first, 100, 9)
	second := with(first, 0, 5)
	second = with(second, 3, 0, 0, 0)
	second = with(second, 511, 6)
	s.put(t, 4, first)
	s.wantIn(t, true, 2)
	s.wantPage(t, 4, first)
	s.put(t, 4, second)
	s.wantIn(t, true, 4)
	s.wantPage(t, 4, second)
	s.put(t, 9, of(8))
	s.wantIn(t, true, 5)
	tx := s.tx(t, 1)
	logged := rows{end: 1}
	prev := int64(0)
	for _, x := range []api.Span{
		{Block: 4, Off: 3, Old: []byte{0, 0, 0}, New: []byte{1, 2, 3}},
		{Block: 4, Off: 100, Old: []byte{0}, New: []byte{9}},
		{Block: 4, Off: 0, Old: []byte{0, 0, 0, 1, 2, 3}, New: []byte{5, 0, 0, 0, 0, 0}},
		{Block: 4, Off: 511, Old: []byte{0}, New: []byte{6}},
		{Block: 9, Off: 0, Old: of(0), New: of(8)},
	} {
		prev = logged.add(2, api.Record{Kind: api.RecChange, Tx: tx, Prev: prev, Span: x})
	}
	s.wantRows(t, logged)
	if dirty := s.p.Dirty(); !slices.Equal(dirty, []api.Dirty{{Block: 4, Lsn: 1}, {Block: 9, Lsn: prev}}) {
		t.Errorf("Dirty = %v", dirty)
	}
	if s.l.Safe() != 1 {
		t.Error("the log was forced")
	}
}

func TestPutOfThePageAsItIs(t *testing.T) {
	s := begun(t, 24, 8)
	s.begin(t)
	s.wantNothing(t, "Put", func() api.Errno { return s.b.Put(2, of(0)) }, api.OK)
	s.put(t, 2, of(7))
	s.wantNothing(t, "Put", func() api.Errno { return s.b.Put(2, of(7)) }, api.OK)
	s.wantPage(t, 2, of(7))
}

func TestPutRefuses(t *testing.T) {
	s := begun(t, 24, 8)
	s.begin(t)
	s.put(t, 1, of(5))
	long := append(of(1), 1)
	for _, page := range []int{-1, 10, 11, math.MinInt, math.MaxInt, 65536, 1 << 32} {
		for _, data := range [][]byte{of(1), of(1)[1:], long, nil} {
			s.wantNothing(t, "Put", func() api.Errno { return s.b.Put(page, data) }, api.ErrNone)
		}
	}
	for page := range 10 {
		for _, data := range [][]byte{nil, {}, {1}, of(1)[1:], long, make([]byte, 1024)} {
			s.wantNothing(t, "Put", func() api.Errno { return s.b.Put(page, data) }, api.ErrArg)
		}
	}
	s.put(t, 9, of(5))
	s.commit(t)
}

// The pool's errors come ahead of a log that is full, and leave the transaction as it was.
func TestPutOfAPageThatCanNotBeHad(t *testing.T) {
	s := begun(t, 24, 8)
	s.begin(t)
	for page := range 8 {
		s.put(t, page, with(of(0), 3, 3))
		s.p.Hold(page)
	}
	s.leave(t, 900)
	s.wantNothing(t, "Put", func() api.Errno { return s.b.Put(8, of(1)) }, api.ErrBusy)
	s.wantNothing(t, "Put", func() api.Errno { return s.b.Put(8, of(1)[1:]) }, api.ErrArg)
	s.wantNothing(t, "Put", func() api.Errno { return s.b.Put(0, of(1)) }, api.ErrFull)
	crash(s.d)
	s.wantNothing(t, "Put", func() api.Errno { return s.b.Put(8, of(1)) }, api.ErrBusy)
	s.p.Leave(7)
	s.wantNothing(t, "Put", func() api.Errno { return s.b.Put(8, of(1)) }, api.ErrDown)
	s.wantNothing(t, "Put", func() api.Errno { return s.b.Put(10, of(1)) }, api.ErrNone)
	s.wantNothing(t, "Put", func() api.Errno { return s.b.Put(0, of(1)) }, api.ErrFull)
	s.put(t, 0, with(of(0), 3, 4)) // in a frame: the device is not asked
	s.d.Wake(all(s.d))
	s.put(t, 8, with(of(0), 3, 5))
	s.commit(t)
	for page := range 8 {
		s.p.Leave(page)
	}
	s.wantPage(t, 0, with(of(0), 3, 4))
	s.wantPage(t, 1, with(of(0), 3, 3))
	s.wantPage(t, 8, with(of(0), 3, 5))
}

// The log must have room for the changes, for undoing them and those ahead of them, and for a last record: just so much, and not a byte less.
func TestPutOfALogThatIsFull(t *testing.T) {
	ahead := with(with(of(0), 20, 1, 2, 3, 4), 300, 5)
	data := with(with(of(0), 7, 8, 9), 200, 1, 1, 1)
	need := 35 // a last record
	undone := 0
	for _, x := range page.Diff(of(0), ahead) {
		undone += sized(api.Record{Kind: api.RecUndo, Span: api.Span{New: x.Old}})
	}
	for _, x := range page.Diff(of(0), data) {
		undone += sized(api.Record{Kind: api.RecUndo, Span: api.Span{New: x.Old}})
		need += sized(api.Record{Kind: api.RecChange, Span: x})
	}
	need += undone
	for _, less := range []int{0, 1, 2, 35} {
		for _, end := range []string{"Commit", "Abort"} {
			s := begun(t, 24, 8)
			s.begin(t)
			s.put(t, 0, ahead)
			s.leave(t, need-less)
			if less > 0 {
				s.wantNothing(t, "Put", func() api.Errno { return s.b.Put(1, data) }, api.ErrFull)
				s.wantPage(t, 1, of(0))
				s.wantIn(t, true, 2)
				continue
			}
			s.put(t, 1, data)
			if s.l.Room() != undone+35 {
				t.Errorf("there is room for %d bytes", s.l.Room())
			}
			s.wantNothing(t, "Put", func() api.Errno { return s.b.Put(1, with(data, 7, 9)) }, api.ErrFull)
			s.wantNothing(t, "Put", func() api.Errno { return s.b.Put(1, data) }, api.OK)
			if end == "Commit" {
				s.commit(t)
				s.wantPage(t, 0, ahead)
				s.wantPage(t, 1, data)
				continue
			}
			s.abort(t)
			if s.l.Room() != 0 {
				t.Errorf("there is room for %d bytes", s.l.Room())
			}
			s.wantPage(t, 0, of(0))
			s.wantPage(t, 1, of(0))
			s.begin(t)
			s.put(t, 1, data)
			s.commit(t)
		}
	}
}

// A transaction that goes on till the log is full is undone, or stays, as a whole.
func TestTransactionsThatFillTheLog(t *testing.T) {
	for _, blocks := range []int{24, 25, 60} {
		s := begun(t, blocks, 8)
		is := make([][]byte, s.b.Pages())
		for i := range is {
			is[i] = of(0)
		}
		for round := range 12 {
			s.begin(t)
			was := slices.Clone(is)
			for n := 0; ; n++ {
				at := (n*7 + round) % len(is)
				data := with(is[at], n*31%400, bytes.Repeat([]byte{byte(n + round + 1)}, 1+(n*13+round)%100)...)
				e := s.b.Put(at, data)
				if e == api.ErrFull {
					break
				}
				want(t, "Put", e, api.OK)
				is[at] = data
			}
			if round%3 == 0 {
				s.commit(t)
			} else {
				s.abort(t)
				is = was
			}
			for i := range is {
				s.wantPage(t, i, is[i])
			}
		}
	}
}

// stray is a book whose pool is of another log, which takes no lsn of the book's own: each change is logged, and not done.
func stray(t *testing.T) shelf {
	t.Helper()
	s := begun(t, 24, 8)
	other, e := log.Open(device.New(8), 0, 8, 1, 1)
	if e != api.OK {
		t.Fatal(e)
	}
	s.p = pool.New(s.d, other, 2, 10, 8)
	s.b = change.New(s.d, s.l, s.p)
	return s
}

// A Put that is stopped among its changes leaves a transaction that can only be aborted.
func TestPutThatIsStopped(t *testing.T) {
	s := stray(t)
	s.begin(t)
	want(t, "Put", s.b.Put(3, with(with(of(0), 9, 1), 90, 1)), api.ErrArg)
	s.wantIn(t, true, 1)
	s.wantPage(t, 3, of(0))
	s.wantNothing(t, "Put", func() api.Errno { return s.b.Put(3, of(1)) }, api.ErrState)
	s.wantNothing(t, "Put", func() api.Errno { return s.b.Put(3, of(0)) }, api.ErrState)
	s.wantNothing(t, "Commit", s.b.Commit, api.ErrState)
	s.wantNothing(t, "Begin", s.b.Begin, api.ErrState)
	s.wantNothing(t, "Point", s.b.Point, api.ErrState)
	want(t, "Abort", s.b.Abort(), api.ErrArg)
	for range 200 { // the log never gets full of it
		s.wantNothing(t, "Abort", s.b.Abort, api.ErrArg)
	}
}

// P12.5.

func TestCommitIsLogged(t *testing.T) {
	s := begun(t, 24, 8)
	logged := rows{end: 1}
	txs := map[int64]int{}
	for n := range byte(3) {
		s.begin(t)
		at := s.l.End()
		s.put(t, 0, with(of(0), 5, n+1))
		tx := s.tx(t, at)
		txs[tx]++
		change := logged.add(2, api.Record{Kind: api.RecChange, Tx: tx, Span: api.Span{Off: 5, Old: []byte{n}, New: []byte{n + 1}}})
		s.commit(t)
		logged.add(2, api.Record{Kind: api.RecCommit, Tx: tx, Prev: change})
		s.wantRows(t, logged)
		if s.l.Safe() != s.l.End() {
			t.Error("the log is not forced")
		}
		s.begin(t)
		at = s.l.End()
		s.commit(t)
		tx = s.tx(t, at)
		txs[tx]++
		logged.add(2, api.Record{Kind: api.RecCommit, Tx: tx})
		s.wantRows(t, logged)
	}
	if len(txs) != 6 {
		t.Errorf("the transactions' numbers: %v", txs)
	}
	if len(s.p.Dirty()) == 0 {
		t.Error("pages were written")
	}
}

// A Commit that crashes can be asked for again; its record stands once.
func TestCommitThatCrashes(t *testing.T) {
	for n := 1; n <= 5; n++ {
		s := begun(t, 24, 8)
		s.begin(t)
		s.put(t, 0, of(1))
		tx := s.tx(t, 1)
		logged := rows{end: 1}
		prev := logged.add(2, api.Record{Kind: api.RecChange, Tx: tx, Span: api.Span{Old: of(0), New: of(1)}})
		logged.add(2, api.Record{Kind: api.RecCommit, Tx: tx, Prev: prev})
		s.d.Arm(n)
		if n < 5 { // three blocks of the log, and a sync
			want(t, "Commit", s.b.Commit(), api.ErrDown)
			s.wantIn(t, true, 1)
			s.wantNothing(t, "Commit", s.b.Commit, api.ErrDown)
			s.wantNothing(t, "Put", func() api.Errno { return s.b.Put(1, of(1)) }, api.ErrState)
			s.wantNothing(t, "Begin", s.b.Begin, api.ErrState)
			s.wantPage(t, 0, of(1))
			s.d.Wake(nil)
		}
		s.commit(t)
		s.wantIn(t, false, 0)
		s.wantRows(t, logged)
		s.wantPage(t, 0, of(1))
		if s.l.Safe() != s.l.End() || s.d.Down() {
			t.Error("the log is not forced")
		}
	}
}

// A device that is down has nothing committed, and nothing logged: when it wakes the transaction goes on.
func TestCommitOfADeviceThatIsDown(t *testing.T) {
	s := begun(t, 24, 8)
	s.begin(t)
	s.put(t, 0, of(1))
	crash(s.d)
	s.wantNothing(t, "Commit", s.b.Commit, api.ErrDown)
	s.d.Wake(nil)
	s.put(t, 1, of(2))
	s.commit(t)
	s.wantPage(t, 0, of(1))
	s.wantPage(t, 1, of(2))
	if all := s.l.From(1); len(all) != 3 || all[2].Kind != api.RecCommit {
		t.Errorf("the log has %v", all)
	}
}

// Somebody else has taken the log's room.
func TestCommitOfALogThatIsFull(t *testing.T) {
	s := begun(t, 24, 8)
	s.begin(t)
	s.put(t, 0, with(of(0), 3, 1))
	s.leave(t, 34)
	s.wantNothing(t, "Commit", s.b.Commit, api.ErrFull)
	s.wantPage(t, 0, with(of(0), 3, 1))
}

func TestAbortIsLogged(t *testing.T) {
	s := begun(t, 24, 8)
	s.begin(t)
	s.put(t, 3, of(9))
	s.commit(t)
	logged := rows{s.l.From(1), s.l.End()}
	forced := s.l.Safe()
	s.begin(t)
	first := with(with(of(9), 0, 1, 2), 100, 3)
	second := with(first, 1, 7)
	s.put(t, 3, first)
	s.put(t, 3, second)
	s.put(t, 5, with(of(0), 511, 4))
	tx := s.tx(t, forced)
	if tx == s.tx(t, 1) {
		t.Error("two transactions of one number")
	}
	spans := []api.Span{
		{Block: 3, Off: 0, Old: []byte{9, 9}, New: []byte{1, 2}},
		{Block: 3, Off: 100, Old: []byte{9}, New: []byte{3}},
		{Block: 3, Off: 1, Old: []byte{2}, New: []byte{7}},
		{Block: 5, Off: 511, Old: []byte{0}, New: []byte{4}},
	}
	lsns := []int64{0}
	for _, x := range spans {
		lsns = append(lsns, logged.add(2, api.Record{Kind: api.RecChange, Tx: tx, Prev: lsns[len(lsns)-1], Span: x}))
	}
	s.wantRows(t, logged)
	s.d.Arm(1) // nothing is to be written
	s.abort(t)
	s.wantIn(t, false, 0)
	prev := lsns[4]
	for i := 3; i >= 0; i-- {
		back := api.Span{Block: spans[i].Block, Off: spans[i].Off, New: spans[i].Old}
		prev = logged.add(2, api.Record{Kind: api.RecUndo, Tx: tx, Prev: prev, Next: lsns[i], Span: back})
	}
	logged.add(2, api.Record{Kind: api.RecAbort, Tx: tx, Prev: prev})
	s.wantRows(t, logged)
	s.wantPage(t, 3, of(9))
	s.wantPage(t, 5, of(0))
	if s.l.Safe() != forced {
		t.Error("the log was forced")
	}
}

func TestAbortOfNothing(t *testing.T) {
	s := begun(t, 24, 8)
	s.begin(t)
	s.abort(t)
	logged := rows{end: 1}
	logged.add(2, api.Record{Kind: api.RecAbort, Tx: s.tx(t, 1)})
	s.wantRows(t, logged)
	s.wantIn(t, false, 0)
}

// Pages are changed back behind their log: each that is written has its RecUndo safe.
func TestAbortOfManyPages(t *testing.T) {
	s := begun(t, 100, 8)
	s.begin(t)
	for page := range 20 {
		s.put(t, page, with(of(0), page, 7))
	}
	s.commit(t)
	s.begin(t)
	for page := range 20 {
		s.put(t, page, with(of(0), page+1, 8))
	}
	for page := range 20 {
		s.put(t, page, with(of(0), page+2, 9))
	}
	s.abort(t)
	for page := range 20 {
		s.wantPage(t, page, with(of(0), page, 7))
	}
}

// Where a page can't be had nothing is undone, whichever of the changes it is of; the transaction goes on, if it likes.
func TestAbortOfAPageThatCanNotBeHad(t *testing.T) {
	for _, end := range []string{"Commit", "Abort"} {
		s := begun(t, 24, 8)
		s.begin(t)
		for page := range 10 {
			s.put(t, page, with(of(0), page, 7))
		}
		in := inFrames(s)
		for _, page := range in {
			s.p.Hold(page)
		}
		s.wantNothing(t, "Abort", s.b.Abort, api.ErrBusy)
		s.p.Leave(in[0])
		crash(s.d)
		s.wantNothing(t, "Abort", s.b.Abort, api.ErrDown)
		s.d.Wake(all(s.d))
		for page := range 10 {
			s.wantPage(t, page, with(of(0), page, 7))
		}
		for _, page := range in {
			s.p.Leave(page)
		}
		s.put(t, 3, of(1))
		if end == "Commit" {
			s.commit(t)
			s.wantPage(t, 3, of(1))
			s.wantPage(t, 4, with(of(0), 4, 7))
			continue
		}
		s.abort(t)
		for page := range 10 {
			s.wantPage(t, page, of(0))
		}
	}
}

// inFrames are the pages that are in frames: those that can be read of a device that is down.
func inFrames(s shelf) []int {
	crash(s.d)
	var out []int
	for page := range s.p.Pages() {
		if _, e := s.p.Read(page); e == api.OK {
			out = append(out, page)
		}
	}
	s.d.Wake(all(s.d))
	return out
}

// All pages are in frames: a device that is down is not asked.
func TestAbortOfADeviceThatIsDown(t *testing.T) {
	s := begun(t, 24, 8)
	s.begin(t)
	s.put(t, 0, of(1))
	s.put(t, 1, of(1))
	crash(s.d)
	s.abort(t)
	s.wantPage(t, 0, of(0))
	s.wantPage(t, 1, of(0))
}

// An Abort that crashes can only be asked for again, and goes on where it was: each change is undone by one record.
func TestAbortThatCrashes(t *testing.T) {
	for n := 1; ; n++ {
		s := begun(t, 40, 8)
		s.begin(t)
		for page := range 18 {
			s.put(t, page, with(of(0), page, 7))
		}
		s.d.Arm(n)
		e := s.b.Abort()
		if e == api.OK {
			if n < 10 {
				t.Errorf("%d writes", n)
			}
			return
		}
		want(t, "Abort", e, api.ErrDown)
		s.wantIn(t, true, 18)
		undone := 0
		for _, r := range s.l.From(1) {
			if r.Kind == api.RecUndo {
				undone++
			}
		}
		if undone > 0 {
			s.wantNothing(t, "Put", func() api.Errno { return s.b.Put(0, of(1)) }, api.ErrState)
			s.wantNothing(t, "Commit", s.b.Commit, api.ErrState)
		}
		s.wantNothing(t, "Begin", s.b.Begin, api.ErrState)
		s.wantNothing(t, "Point", s.b.Point, api.ErrState)
		s.d.Wake(all(s.d))
		s.abort(t)
		s.wantIn(t, false, 0)
		for page := range 18 {
			s.wantPage(t, page, of(0))
		}
		wantChain(t, s.l.From(1), 18)
		s.begin(t)
		s.put(t, 0, of(1))
		s.commit(t)
	}
}

// wantChain holds records of one transaction that was undone against the words: so many changes, each undone once.
func wantChain(t *testing.T, all []api.Record, changes int) {
	t.Helper()
	if len(all) != 2*changes+1 || all[2*changes].Kind != api.RecAbort {
		t.Fatalf("the log has %d records: %+v", len(all), all)
	}
	prev := int64(0)
	for i, r := range all {
		if r.Prev != prev || r.Tx != all[0].Tx {
			t.Fatalf("the record %d: %+v", i, r)
		}
		prev = r.Lsn
		if i < changes || i == 2*changes {
			continue
		}
		undone := all[2*changes-1-i]
		if r.Kind != api.RecUndo || r.Next != undone.Prev || r.Span.Block != undone.Span.Block || !bytes.Equal(r.Span.New, undone.Span.Old) {
			t.Fatalf("the record %d: %+v", i, r)
		}
	}
}

// A Commit that crashed has taken the room that was kept for a last record: Abort does not find the log full all the same.
func TestAbortBehindACommitThatCrashed(t *testing.T) {
	for _, room := range []int{0, 1, 34, 35, 36, 500} {
		s := begun(t, 24, 8)
		s.begin(t)
		s.put(t, 0, with(of(0), 3, 1))
		s.put(t, 1, with(of(0), 3, 1))
		s.leave(t, 2*52+35+room)
		s.d.Arm(1)
		want(t, "Commit", s.b.Commit(), api.ErrDown)
		s.wantNothing(t, "Put", func() api.Errno { return s.b.Put(1, of(1)) }, api.ErrState)
		s.abort(t)
		s.wantIn(t, false, 0)
		s.wantPage(t, 0, of(0))
		s.wantPage(t, 1, of(0))
		records := s.l.From(1)
		if last := records[len(records)-1]; last.Kind == api.RecAbort != (room >= 35) {
			t.Errorf("room %d: the last record is %+v", room, last)
		}
		s.d.Wake(nil)
		s.begin(t)
		s.put(t, 1, of(2))
		s.commit(t)
		s.wantPage(t, 0, of(0))
		s.wantPage(t, 1, of(2))
	}
}

// Somebody else has filled the log: nothing is undone till there is room again.
func TestAbortOfALogThatSomebodyFilled(t *testing.T) {
	s := begun(t, 24, 8)
	s.begin(t)
	s.put(t, 0, with(of(0), 3, 1))
	s.leave(t, 51)
	s.wantNothing(t, "Abort", s.b.Abort, api.ErrFull)
	s.wantPage(t, 0, with(of(0), 3, 1))
	s.commit(t)
}

// Somebody else has cut the log: what the changes were can't be told any more.
func TestAbortOfALogThatWasCut(t *testing.T) {
	s := begun(t, 24, 8)
	s.begin(t)
	s.put(t, 0, of(1))
	s.put(t, 0, of(2))
	second := s.l.From(1)[1].Lsn
	s.l.Trim(second)
	s.wantNothing(t, "Abort", s.b.Abort, api.ErrNone)
	s.wantPage(t, 0, of(2))
	s.commit(t)
}

// P12.6.

func TestPoint(t *testing.T) {
	s := begun(t, 24, 8)
	was := change.Master{Seq: 1, Turn: 1, Oldest: 1}
	for n := range byte(5) {
		s.begin(t)
		for page := range 10 {
			s.put(t, page, with(of(0), int(n), n+1))
		}
		if n%2 == 0 {
			s.commit(t)
		} else {
			s.abort(t)
		}
		if n == 3 { // somebody else opens the device
			was = change.Master{Seq: 90, Turn: 17, Oldest: was.Oldest}
			change.Write(s.d, was)
		}
		s.point(t)
		is := change.Master{Seq: was.Seq + 1, Turn: was.Turn, Oldest: s.l.End()}
		wantRead(t, woken(s.d, nil), is)
		if s.l.Oldest() != s.l.End() || s.l.Room() != 408*11 || len(s.l.From(s.l.Oldest())) > 0 || len(s.p.Dirty()) > 0 {
			t.Errorf("round %d: the log is from %d to %d, dirty are %v", n, s.l.Oldest(), s.l.End(), s.p.Dirty())
		}
		for page := range 10 {
			if b, _ := s.b.Page(page); !bytes.Equal(safe(s.d, 2+page), b) {
				t.Errorf("round %d: page %d is not safe", n, page)
			}
		}
		was = is
	}
}

// First the log, then pages, then the master, and the log is trimmed behind all.
func TestPointThatCrashes(t *testing.T) {
	const writes = 2 + 1 + 3 + 1 + 1 + 1 // two blocks of the log, a sync, three pages, a sync, the master, a sync
	for n := 1; n <= writes+1; n++ {
		s := begun(t, 24, 8)
		s.begin(t)
		for _, page := range []int{4, 1, 8} {
			s.put(t, page, with(of(0), 5, 6))
		}
		s.commit(t)
		s.begin(t)
		for _, page := range []int{4, 1, 8} {
			s.put(t, page, with(of(0), 5, 7))
		}
		s.abort(t) // its records are not forced
		end := s.l.End()
		s.d.Arm(n)
		if n > writes {
			s.point(t)
			continue
		}
		want(t, "Point", s.b.Point(), api.ErrDown)
		s.wantIn(t, false, 0)
		if s.l.Oldest() != 1 || s.l.End() != end {
			t.Errorf("crash at %d: the log is from %d to %d", n, s.l.Oldest(), s.l.End())
		}
		wantRead(t, woken(s.d, nil), change.Master{Seq: 1, Turn: 1, Oldest: 1})
		if m, _ := change.Read(woken(s.d, all(s.d))); m.Seq == 2 && n < writes-1 {
			t.Errorf("crash at %d: the master is written", n)
		}
		for _, page := range []int{4, 1, 8} {
			if done := bytes.Equal(safe(s.d, 2+page), with(of(0), 5, 6)); done != (n >= writes-1) {
				t.Errorf("crash at %d: page %d is safe: %v", n, page, done)
			}
			s.wantPage(t, page, with(of(0), 5, 6))
		}
		want(t, "Point", s.b.Point(), api.ErrDown)
		s.d.Wake(nil)
		s.point(t)
		wantRead(t, s.d, change.Master{Seq: 2, Turn: 1, Oldest: end})
	}
}

func TestPointOfADeviceThatIsDown(t *testing.T) {
	s := begun(t, 24, 8)
	s.begin(t)
	s.put(t, 0, of(1))
	s.commit(t)
	crash(s.d)
	s.wantNothing(t, "Point", s.b.Point, api.ErrDown)
	s.d.Wake(nil)
	change.Write(s.d, change.Master{Seq: 1 << 62, Turn: 1, Oldest: 1})
	crash(s.d)
	s.wantNothing(t, "Point", s.b.Point, api.ErrDown)
}

func TestPointOfTheLastSeq(t *testing.T) {
	for _, seq := range []int64{1<<61 - 2, 1<<61 - 1, 1 << 61, 1<<61 + 1, 1 << 62, math.MaxInt64 - 1, math.MaxInt64} {
		s := begun(t, 24, 8)
		change.Write(s.d, change.Master{Seq: seq, Turn: 5, Oldest: 1})
		s.begin(t)
		s.put(t, 0, of(1))
		s.commit(t)
		for ; seq < 1<<61; seq++ {
			s.point(t)
			wantRead(t, s.d, change.Master{Seq: seq + 1, Turn: 5, Oldest: s.l.End()})
		}
		s.begin(t)
		s.put(t, 0, of(2))
		s.wantNothing(t, "Point", s.b.Point, api.ErrState)
		s.commit(t)
		s.wantNothing(t, "Point", s.b.Point, api.ErrFull)
		s.wantPage(t, 0, of(2))
	}
}

// No master may say a place above 2^61.
func TestPointOfTheLastPlaces(t *testing.T) {
	for _, c := range []struct {
		oldest int64
		want   api.Errno
	}{
		{1<<61 - 1000, api.OK}, {1<<61 - 35, api.OK}, {1<<61 - 34, api.ErrFull}, {1 << 61, api.ErrFull},
	} {
		d := device.New(24)
		change.Format(d)
		s := opened(t, d, 8, c.oldest, 2)
		s.begin(t)
		s.commit(t)
		if c.want != api.OK {
			s.wantNothing(t, "Point", s.b.Point, c.want)
			continue
		}
		s.point(t)
		wantRead(t, d, change.Master{Seq: 2, Turn: 1, Oldest: c.oldest + 35})
	}
}

// Somebody else has written over both masters.
func TestPointWithoutAMaster(t *testing.T) {
	s := begun(t, 24, 8)
	s.d.Write(0, of(1))
	s.d.Write(1, of(1))
	s.wantNothing(t, "Point", s.b.Point, api.ErrShape)
}

// R3.

// roomy is a page with spare room behind its bytes.
func roomy(b []byte) []byte {
	return append(make([]byte, 0, len(b)+32), b...)
}

// scribble writes over bytes and the spare room behind them.
func scribble(b []byte) {
	b = b[:cap(b)]
	for i := range b {
		b[i] = 255
	}
}

func TestWhatIsHandedInIsLeft(t *testing.T) {
	s := begun(t, 24, 8)
	s.begin(t)
	data := roomy(with(of(3), 40, 9))
	was := slices.Clone(data[:cap(data)])
	s.put(t, 2, data)
	if !bytes.Equal(data[:cap(data)], was) {
		t.Error("the page was changed")
	}
	scribble(data)
	s.wantPage(t, 2, with(of(3), 40, 9))
	s.put(t, 2, of(0))
	s.commit(t)
	if r := s.l.From(1)[0]; !bytes.Equal(r.Span.New, with(of(3), 40, 9)) {
		t.Error("the record was changed")
	}
	s.begin(t)
	data = roomy(of(4))
	s.put(t, 2, data)
	scribble(data)
	s.abort(t)
	s.wantPage(t, 2, of(0))
}

func TestWhatIsHandedOutIsNew(t *testing.T) {
	s := begun(t, 24, 8)
	s.begin(t)
	s.put(t, 2, of(3))
	one, _ := s.b.Page(2)
	two, _ := s.b.Page(2)
	scribble(one)
	if !bytes.Equal(two, of(3)) {
		t.Error("two answers share bytes")
	}
	s.wantPage(t, 2, of(3))
	s.put(t, 2, one)
	scribble(two)
	s.wantPage(t, 2, of(255))
	s.abort(t)
	s.wantPage(t, 2, of(0))
}

// R5.

func TestNoBook(t *testing.T) {
	for _, b := range []*change.Book{nil, {}, new(change.Book), change.New(nil, nil, nil)} {
		want(t, "Begin", b.Begin(), api.ErrNil)
		for _, page := range []int{-1, 0, 1} {
			if p, e := b.Page(page); len(p) > 0 || e != api.ErrNil {
				t.Errorf("Page = %v, %d", p, e)
			}
			want(t, "Put", b.Put(page, of(1)), api.ErrNil)
			want(t, "Put", b.Put(page, nil), api.ErrNil)
		}
		want(t, "Commit", b.Commit(), api.ErrNil)
		want(t, "Abort", b.Abort(), api.ErrNil)
		want(t, "Point", b.Point(), api.ErrNil)
		if b.Pages() != 0 || b.In() || b.Changes() != 0 {
			t.Errorf("%d pages; %v, %d", b.Pages(), b.In(), b.Changes())
		}
	}
}

// A book that is copied is in the same transaction as the one that it is of.
func TestCopyOfABook(t *testing.T) {
	s := begun(t, 24, 8)
	twin := *s.b
	s.begin(t)
	if !twin.In() {
		t.Error("the copy is in none")
	}
	want(t, "Put", twin.Put(0, of(1)), api.OK)
	s.wantIn(t, true, 1)
	s.put(t, 1, of(2))
	want(t, "Abort", twin.Abort(), api.OK)
	s.wantIn(t, false, 0)
	s.wantPage(t, 0, of(0))
	s.wantPage(t, 1, of(0))
}
