package restore_test

import (
	"bytes"
	"math"
	"reflect"
	"slices"
	"testing"

	"parchment/api"
	"parchment/change"
	"parchment/device"
	"parchment/log"
	"parchment/pool"
	"parchment/restore"
)

// lastTurn is a log's last one: it finds what all others have written.
const lastTurn = 1<<31 - 1

// of is a page of one byte.
func of(x byte) []byte {
	return bytes.Repeat([]byte{x}, 512)
}

// with is a page's bytes with others in them.
func with(b []byte, off int, others ...byte) []byte {
	out := slices.Clone(b)
	copy(out[off:], others)
	return out
}

func formatted(t *testing.T, blocks int) *device.Device {
	t.Helper()
	d := device.New(blocks)
	want(t, "Format", change.Format(d), api.OK)
	return d
}

// all are fates that keep whatever was not synced.
func all(d *device.Device) []api.Fate {
	var out []api.Fate
	for block := range d.Blocks() {
		out = append(out, api.Fate{Block: block, Keep: 255})
	}
	return out
}

// woken is what a crash would leave of a device.
func woken(d *device.Device, fates []api.Fate) *device.Device {
	twin := d.Copy()
	twin.Wake(fates)
	return twin
}

func crash(d *device.Device) {
	d.Arm(1)
	d.Sync()
}

func want(t *testing.T, call string, got, want api.Errno) {
	t.Helper()
	if got != want {
		t.Fatalf("%s = %d; want %d", call, got, want)
	}
}

func opened(t *testing.T, d *device.Device, frames int) (*change.Book, restore.Told) {
	t.Helper()
	b, told, e := restore.Open(d, frames)
	want(t, "Open", e, api.OK)
	if b == nil || b.In() || b.Changes() != 0 {
		t.Fatal("no book, or one that is in a transaction")
	}
	return b, told
}

func wantTold(t *testing.T, got, want restore.Told) {
	t.Helper()
	if got != want {
		t.Fatalf("told %+v; want %+v", got, want)
	}
}

func wantPage(t *testing.T, b *change.Book, page int, want []byte) {
	t.Helper()
	if got, e := b.Page(page); e != api.OK || !bytes.Equal(got, want) {
		t.Fatalf("Page(%d) = %v, %d; want %v", page, got, e, want)
	}
}

func wantMaster(t *testing.T, d *device.Device, want change.Master) {
	t.Helper()
	if got, e := change.Read(d); e != api.OK || got != want {
		t.Fatalf("the master is %+v, %d; want %+v", got, e, want)
	}
}

// blocks are all that a device says.
func blocks(t *testing.T, d *device.Device) [][]byte {
	t.Helper()
	twin := woken(d, all(d))
	var out [][]byte
	for block := range twin.Blocks() {
		b, e := twin.Read(block)
		want(t, "Read", e, api.OK)
		out = append(out, b)
	}
	return out
}

// wantRefused holds a device ahead of an Open that is refused against what it is behind it.
func wantRefused(t *testing.T, d *device.Device, frames int, e api.Errno) {
	t.Helper()
	was, down := blocks(t, d), d.Down()
	b, told, got := restore.Open(d, frames)
	want(t, "Open", got, e)
	if b != nil || told != (restore.Told{}) {
		t.Errorf("beside %d: %v, %+v", e, b, told)
	}
	if !reflect.DeepEqual(blocks(t, d), was) || d.Down() != down {
		t.Errorf("beside %d the device was changed", e)
	}
}

// logged are the records that stand on a device from a place on, and where they end.
func logged(t *testing.T, d *device.Device, oldest int64) ([]api.Record, int64) {
	t.Helper()
	_, _, at, count := change.Place(d.Blocks())
	l, e := log.Open(woken(d, nil), at, count, oldest, lastTurn)
	want(t, "log.Open", e, api.OK)
	return l.From(oldest), l.End()
}

func wantLogged(t *testing.T, d *device.Device, oldest int64, want []api.Record) {
	t.Helper()
	got, _ := logged(t, d, oldest)
	if len(got) != len(want) || len(got) > 0 && !reflect.DeepEqual(got, want) {
		t.Fatalf("the log has\n%+v; want\n%+v", got, want)
	}
}

// shelf is a book whose log and pool are at hand.
type shelf struct {
	d *device.Device
	l *log.Log
	p *pool.Pool
	b *change.Book
}

// byHand is a book over a device whose log has no records.
func byHand(t *testing.T, d *device.Device) shelf {
	t.Helper()
	m, e := change.Read(d)
	want(t, "change.Read", e, api.OK)
	first, pages, at, count := change.Place(d.Blocks())
	l, e := log.Open(d, at, count, m.Oldest, m.Turn+1)
	want(t, "log.Open", e, api.OK)
	p := pool.New(d, l, first, pages, 8)
	b := change.New(d, l, p)
	if b == nil {
		t.Fatal("no book")
	}
	return shelf{d, l, p, b}
}

func put(t *testing.T, b *change.Book, page int, data []byte) {
	t.Helper()
	want(t, "Put", b.Put(page, data), api.OK)
}

// committed puts pages, by their numbers from a first one on, within a transaction.
func committed(t *testing.T, b *change.Book, first int, pages ...[]byte) {
	t.Helper()
	want(t, "Begin", b.Begin(), api.OK)
	for i, data := range pages {
		put(t, b, first+i, data)
	}
	want(t, "Commit", b.Commit(), api.OK)
}

// append puts a record into the log as somebody's own.
func (s shelf) append(t *testing.T, r api.Record) int64 {
	t.Helper()
	lsn, e := s.l.Append(r)
	want(t, "Append", e, api.OK)
	return lsn
}

func (s shelf) force(t *testing.T) {
	t.Helper()
	want(t, "Force", s.l.Force(), api.OK)
}

// The chapter's example.
func TestExample(t *testing.T) {
	d := formatted(t, 24)
	b, told := opened(t, d, 8)
	wantTold(t, told, restore.Told{})
	committed(t, b, 3, of(7))
	d.Wake(nil)
	b, told = opened(t, d, 8)
	wantTold(t, told, restore.Told{Records: 2, Redone: 1, Committed: 1})
	wantPage(t, b, 3, of(7))

	s := byHand(t, d)
	want(t, "Begin", s.b.Begin(), api.OK)
	put(t, s.b, 3, of(8))
	s.force(t)
	d.Wake(nil)
	b, told = opened(t, d, 8)
	wantTold(t, told, restore.Told{Records: 1, Redone: 1, Undone: 1})
	wantPage(t, b, 3, of(7))
}

// P13.1: what is refused.

func TestNoDevice(t *testing.T) {
	for _, d := range []*device.Device{nil, {}, new(device.Device), device.New(0), device.New(-1), device.New(1<<16 + 1)} {
		for _, frames := range []int{8, 1024, 7, 0, -1} {
			b, told, e := restore.Open(d, frames)
			want(t, "Open", e, api.ErrNil)
			if b != nil || told != (restore.Told{}) {
				t.Errorf("%v, %+v", b, told)
			}
		}
	}
}

// ErrArg is ahead of whatever the device is.
func TestFrames(t *testing.T) {
	down := formatted(t, 24)
	crash(down)
	full := formatted(t, 24)
	change.Write(full, change.Master{Seq: 2, Turn: 1<<31 - 2, Oldest: 1})
	for _, d := range []*device.Device{formatted(t, 24), down, full, device.New(24), device.New(1), device.New(23)} {
		for _, frames := range []int{7, 1, 0, -1, -8, 1025, 1 << 16, math.MinInt, math.MaxInt} {
			wantRefused(t, d, frames, api.ErrArg)
		}
	}
	for _, frames := range []int{8, 9, 1023, 1024} {
		opened(t, formatted(t, 24), frames)
	}
}

func TestErrorsOfTheMaster(t *testing.T) {
	for _, blocks := range []int{2, 3, 23, 24, 40} {
		wantRefused(t, device.New(blocks), 8, api.ErrShape)
	}
	wantRefused(t, device.New(1), 8, api.ErrNone)
	d := formatted(t, 24)
	d.Write(0, of(1))
	d.Write(1, of(1))
	wantRefused(t, d, 8, api.ErrShape)
	for _, d := range []*device.Device{formatted(t, 24), device.New(24), device.New(1), d} {
		crash(d)
		wantRefused(t, d, 8, api.ErrDown)
	}
}

// A master that somebody has put onto a device that is none of Format's.
func TestFewBlocks(t *testing.T) {
	for blocks := 2; blocks < 24; blocks++ {
		for _, turn := range []int64{1, 1<<31 - 2} {
			whole := formatted(t, 24)
			change.Write(whole, change.Master{Seq: 3, Turn: turn, Oldest: 1})
			b, _ := whole.Read(1)
			d := device.New(blocks)
			d.Write(1, b)
			e := api.ErrArg
			if turn > 1 {
				e = api.ErrFull
			}
			wantRefused(t, d, 8, e)
		}
	}
}

// unfinished is a device whose log has a transaction that has no end, and that has such a master.
func unfinished(t *testing.T, m change.Master) *device.Device {
	t.Helper()
	d := formatted(t, 24)
	want(t, "change.Write", change.Write(d, m), api.OK)
	s := byHand(t, d)
	committed(t, s.b, 0, of(7))
	want(t, "Begin", s.b.Begin(), api.OK)
	put(t, s.b, 0, of(8))
	s.force(t)
	d.Wake(nil)
	return d
}

func TestLastTurns(t *testing.T) {
	for _, turn := range []int64{1, 2, 1<<31 - 5, 1<<31 - 4, 1<<31 - 3} {
		d := unfinished(t, change.Master{Seq: 5, Turn: turn, Oldest: 1})
		for seq := int64(5); turn < 1<<31-2 && seq < 15; seq += 2 {
			b, _ := opened(t, d, 8)
			turn++
			// Two changes, a commit; a RecUndo, RecAbort.
			wantMaster(t, d, change.Master{Seq: seq + 2, Turn: turn, Oldest: 1 + 1067 + 35 + 1067 + 563 + 35})
			wantPage(t, b, 0, of(7))
		}
		if turn == 1<<31-2 {
			wantRefused(t, d, 8, api.ErrFull)
			crash(d)
			wantRefused(t, d, 8, api.ErrDown)
		}
	}
	wantRefused(t, unfinished(t, change.Master{Seq: 5, Turn: 1<<31 - 2, Oldest: 1}), 8, api.ErrFull)
}

// A master's Seq ends where a checkpoint would be refused: ahead of all that would be in vain.
func TestLastSeqs(t *testing.T) {
	for _, seq := range []int64{1<<61 - 5, 1<<61 - 4, 1<<61 - 3, 1<<61 - 2} {
		d := unfinished(t, change.Master{Seq: seq, Turn: 1, Oldest: 1})
		for turn := int64(2); seq <= 1<<61-2; turn++ {
			b, _ := opened(t, d, 8)
			seq += 2
			m, _ := change.Read(d)
			wantMaster(t, d, change.Master{Seq: seq, Turn: turn, Oldest: m.Oldest})
			wantPage(t, b, 0, of(7))
		}
		wantRefused(t, d, 8, api.ErrFull)
	}
	for _, seq := range []int64{1<<61 - 1, 1 << 61, 1<<61 + 1, 1 << 62, math.MaxInt64 - 1, math.MaxInt64} {
		wantRefused(t, unfinished(t, change.Master{Seq: seq, Turn: 1, Oldest: 1}), 8, api.ErrFull)
	}
}

// No master says a place above 2^61: the checkpoint is refused, and what was done till then is done.
func TestLastPlaces(t *testing.T) {
	for _, c := range []struct {
		oldest int64
		want   api.Errno
	}{
		{1 << 40, api.OK}, {1<<61 - 35, api.OK}, {1<<61 - 34, api.ErrFull}, {1 << 61, api.ErrFull},
	} {
		d := formatted(t, 24)
		change.Write(d, change.Master{Seq: 2, Turn: 1, Oldest: c.oldest})
		s := byHand(t, d)
		committed(t, s.b, 0)
		d.Wake(nil)
		b, told, e := restore.Open(d, 8)
		want(t, "Open", e, c.want)
		if e != api.OK {
			if b != nil || told != (restore.Told{}) {
				t.Errorf("beside %d: %v, %+v", e, b, told)
			}
			continue
		}
		wantTold(t, told, restore.Told{Records: 1, Committed: 1})
		wantMaster(t, d, change.Master{Seq: 4, Turn: 2, Oldest: c.oldest + 35})
	}
	d := formatted(t, 24)
	change.Write(d, change.Master{Seq: 2, Turn: 1, Oldest: 1 << 61})
	opened(t, d, 8)
	wantMaster(t, d, change.Master{Seq: 4, Turn: 2, Oldest: 1 << 61})
}

// P13.1: the steps.

// A log that has no records: the turn is taken, and a checkpoint is.
func TestOpenOfNothing(t *testing.T) {
	for _, m := range []change.Master{{Seq: 1, Turn: 1, Oldest: 1}, {Seq: 8, Turn: 3, Oldest: 77}, {Seq: 1 << 40, Turn: 1 << 30, Oldest: 1 << 50}} {
		for n := 0; n <= 6; n++ {
			d := formatted(t, 24)
			want(t, "change.Write", change.Write(d, m), api.OK)
			taken := change.Master{Seq: m.Seq + 1, Turn: m.Turn + 1, Oldest: m.Oldest}
			pointed := change.Master{Seq: m.Seq + 2, Turn: m.Turn + 1, Oldest: m.Oldest}
			d.Arm(n)
			b, told, e := restore.Open(d, 8)
			wantTold(t, told, restore.Told{})
			if n == 0 || n == 6 {
				want(t, "Open", e, api.OK)
				wantMaster(t, woken(d, nil), pointed)
				continue
			}
			want(t, "Open", e, api.ErrDown)
			if b != nil {
				t.Error("a book of a device that is down")
			}
			// A master, a sync; the pages' sync; a master, a sync.
			lost := []change.Master{m, m, taken, taken, taken}[n-1]
			kept := []change.Master{taken, taken, taken, pointed, pointed}[n-1]
			wantMaster(t, woken(d, nil), lost)
			wantMaster(t, woken(d, all(d)), kept)
		}
	}
}

// The turn is safe ahead of all; then the log has what undoing takes; then the page is undone; then the log begins anew.
func TestOrderOfTheSteps(t *testing.T) {
	d := formatted(t, 24)
	s := byHand(t, d)
	committed(t, s.b, 4, of(1))
	want(t, "Begin", s.b.Begin(), api.OK)
	put(t, s.b, 4, of(2))
	want(t, "Flush", s.p.Flush(), api.OK)
	d.Wake(nil)

	type state struct {
		turn, oldest int64
		records      int
		page         byte
	}
	_, end := logged(t, d, 1)
	end += 563 + 35 // RecUndo of 512 bytes, RecAbort
	var got []state
	for n := 1; ; n++ {
		twin := d.Copy()
		twin.Arm(n)
		_, _, e := restore.Open(twin, 8)
		safe := woken(twin, nil)
		m, _ := change.Read(safe)
		records, _ := logged(t, safe, 1)
		b, _ := safe.Read(2 + 4)
		is := state{m.Turn, m.Oldest, len(records), b[300]}
		if len(got) == 0 || got[len(got)-1] != is {
			got = append(got, is)
		}
		if e == api.OK {
			break
		}
		want(t, "Open", e, api.ErrDown)
	}
	wanted := []state{{1, 1, 3, 2}, {2, 1, 3, 2}, {2, 1, 5, 2}, {2, 1, 5, 1}, {2, end, 5, 1}}
	if !slices.Equal(got, wanted) {
		t.Errorf("the states are %+v; want %+v", got, wanted)
	}
}

// The book goes on with the turn that was taken, and 1.
func TestTurnOfTheBook(t *testing.T) {
	d := formatted(t, 24)
	for range 4 {
		b, _ := opened(t, d, 8)
		m, _ := change.Read(d)
		committed(t, b, 0, with(of(0), 3, byte(m.Turn)))
		records, _ := logged(t, d, m.Oldest)
		if len(records) != 2 || records[0].Turn != m.Turn+1 || records[1].Turn != m.Turn+1 {
			t.Fatalf("the turn is %d; the log has %+v", m.Turn, records)
		}
		d.Wake(nil)
	}
}

// Records are done over again in order, whatever the pages on the device are: as they were, as some of the records made them, or torn.
func TestRedo(t *testing.T) {
	for kept := range 8 {
		d := formatted(t, 100)
		b, _ := opened(t, d, 8)
		committed(t, b, 3, of(1), of(2))
		committed(t, b, 3, with(of(1), 100, 9, 9), of(3))
		want(t, "Begin", b.Begin(), api.OK)
		put(t, b, 3, of(77))
		want(t, "Abort", b.Abort(), api.OK)
		committed(t, b, 3, with(of(1), 101, 8))
		d.Sync()
		for block, keep := range []uint8{2: 0, 5: uint8(kept * 37), 6: 255 - uint8(kept*37)} {
			if keep > 0 { // some of its sectors were written in the midst
				b, _ := d.Read(block)
				for sector := range 8 {
					if keep>>sector&1 == 1 {
						copy(b[64*sector:], of(byte(sector))[:64])
					}
				}
				d.Write(block, b)
			}
		}
		d.Wake(all(d))
		b, told := opened(t, d, 8)
		wantTold(t, told, restore.Told{Records: 11, Redone: 7, Committed: 3})
		wantPage(t, b, 3, with(of(1), 101, 8))
		wantPage(t, b, 4, of(3))
		for _, page := range []int{0, 1, 2, 5, 6, 7, 8, 9} {
			wantPage(t, b, page, of(0))
		}
	}
}

// More pages than there are frames: they go through them.
func TestRedoOfManyPages(t *testing.T) {
	for _, frames := range []int{8, 9, 30, 1024} {
		d := formatted(t, 100)
		b, _ := opened(t, d, 48)
		for round := range byte(3) {
			want(t, "Begin", b.Begin(), api.OK)
			for page := range b.Pages() {
				put(t, b, page, with(of(0), page, round+1, byte(page)))
			}
			want(t, "Commit", b.Commit(), api.OK)
		}
		d.Wake(nil)
		b, told := opened(t, d, frames)
		if told.Records != told.Redone+told.Committed || told.Redone < 100 || told.Committed != 3 {
			t.Errorf("told %+v", told)
		}
		for page := range b.Pages() {
			wantPage(t, b, page, with(of(0), page, 3, byte(page)))
		}
	}
}

// undoing is the record that undoes a change.
func undoing(r api.Record, prev int64) api.Record {
	back := api.Span{Block: r.Span.Block, Off: r.Span.Off, New: r.Span.Old}
	return api.Record{Kind: api.RecUndo, Tx: r.Tx, Prev: prev, Next: r.Prev, Span: back}
}

// halfUndone is a device whose log has a transaction of changes of which so many are undone.
func halfUndone(t *testing.T, undone int, flushed bool) (*device.Device, []api.Record) {
	t.Helper()
	d := formatted(t, 24)
	b, _ := opened(t, d, 8)
	committed(t, b, 3, of(1), of(2))
	d.Wake(nil)
	opened(t, d, 8)
	s := byHand(t, d)
	committed(t, s.b, 5, of(3))
	want(t, "Begin", s.b.Begin(), api.OK)
	put(t, s.b, 3, with(with(of(1), 10, 9, 9), 500, 9))
	put(t, s.b, 4, of(9))
	put(t, s.b, 3, with(with(of(1), 10, 8, 8, 8), 500, 9))
	put(t, s.b, 9, with(of(0), 511, 9))
	changes := s.l.From(s.l.Oldest())[2:]
	prev := changes[len(changes)-1].Lsn
	for i := range undone {
		r := undoing(changes[len(changes)-1-i], prev)
		prev = s.append(t, r)
		want(t, "Change", s.p.Change(r.Span, prev), api.OK)
	}
	s.force(t)
	if flushed {
		want(t, "Flush", s.p.Flush(), api.OK)
	}
	d.Wake(nil)
	return d, changes
}

// What of the transaction is not undone yet is undone, the last change first; what is undone stays so.
func TestUndo(t *testing.T) {
	for _, flushed := range []bool{false, true} {
		for undone := 0; undone <= 5; undone++ {
			d, changes := halfUndone(t, undone, flushed)
			if len(changes) != 5 {
				t.Fatalf("%d changes", len(changes))
			}
			m, _ := change.Read(d)
			wanted, end := logged(t, d, m.Oldest)
			wantedTold := restore.Told{Records: 7 + undone, Redone: 6 + undone, Undone: 5 - undone, Committed: 1}
			add := func(r api.Record) {
				r.Lsn, r.Turn = end, m.Turn+2
				b, _ := log.Put(r)
				end += int64(len(b))
				wanted = append(wanted, r)
			}
			for i := 4 - undone; i >= 0; i-- {
				add(undoing(changes[i], wanted[len(wanted)-1].Lsn))
			}
			add(api.Record{Kind: api.RecAbort, Tx: changes[0].Tx, Prev: wanted[len(wanted)-1].Lsn})

			b, told := opened(t, d, 8)
			wantTold(t, told, wantedTold)
			wantLogged(t, d, m.Oldest, wanted)
			wantMaster(t, woken(d, nil), change.Master{Seq: m.Seq + 2, Turn: m.Turn + 1, Oldest: end})
			for page, data := range [][]byte{of(0), of(0), of(0), of(1), of(2), of(3), of(0), of(0), of(0), of(0)} {
				wantPage(t, b, page, data)
				if on, _ := woken(d, nil).Read(2 + page); !bytes.Equal(on, data) {
					t.Errorf("page %d is not safe", page)
				}
			}
			// All is whole: another one finds nothing to do.
			d.Wake(nil)
			b, told = opened(t, d, 8)
			wantTold(t, told, restore.Told{})
			wantPage(t, b, 3, of(1))
		}
	}
}

// A transaction that has an end is not undone, nor is one ahead of another's records.
func TestTransactionsThatHaveAnEnd(t *testing.T) {
	for _, last := range []api.RecordKind{api.RecCommit, api.RecAbort} {
		d := formatted(t, 24)
		s := byHand(t, d)
		committed(t, s.b, 0, of(1))
		want(t, "Begin", s.b.Begin(), api.OK)
		put(t, s.b, 0, of(2))
		told := restore.Told{Records: 4, Redone: 2, Committed: 2}
		page := of(2)
		if last == api.RecAbort {
			want(t, "Abort", s.b.Abort(), api.OK)
			told = restore.Told{Records: 5, Redone: 3, Committed: 1}
			page = of(1)
		} else {
			want(t, "Commit", s.b.Commit(), api.OK)
		}
		s.force(t)
		d.Wake(nil)
		wanted, end := logged(t, d, 1)
		b, got := opened(t, d, 8)
		wantTold(t, got, told)
		wantPage(t, b, 0, page)
		wantLogged(t, d, 1, wanted)
		wantMaster(t, d, change.Master{Seq: 3, Turn: 2, Oldest: end})
	}
}

// What the log has lost is not there; what it has left of that is never met again.
func TestLostRecords(t *testing.T) {
	d := formatted(t, 24)
	b, _ := opened(t, d, 8)
	committed(t, b, 0, with(of(0), 3, 1))
	want(t, "Begin", b.Begin(), api.OK)
	put(t, b, 0, of(2))
	put(t, b, 1, of(2))
	d.Arm(4) // three blocks are written
	want(t, "Commit", b.Commit(), api.ErrDown)
	d.Wake([]api.Fate{{Block: 12, Keep: 255}, {Block: 13, Keep: 255}, {Block: 14, Keep: 254}})
	b, told := opened(t, d, 8)
	wantTold(t, told, restore.Told{Records: 2, Redone: 1, Committed: 1})
	wantPage(t, b, 0, with(of(0), 3, 1))
	wantPage(t, b, 1, of(0))
	for n := range byte(20) {
		committed(t, b, 2, with(of(0), 7, n+1))
		twin := woken(d, nil)
		b, told := opened(t, twin, 8)
		wantTold(t, told, restore.Told{Records: 2 * (int(n) + 1), Redone: int(n) + 1, Committed: int(n) + 1})
		wantPage(t, b, 2, with(of(0), 7, n+1))
	}
}

// The frames are as many as are asked for: with one too few a page has to go, behind the log being forced.
func TestFramesOfTheBook(t *testing.T) {
	for _, frames := range []int{8, 9, 20, 1023, 1024} {
		for over := range 2 {
			d := formatted(t, 4096)
			b, _ := opened(t, d, frames)
			d.Arm(1)
			want(t, "Begin", b.Begin(), api.OK)
			for page := range frames {
				put(t, b, page, with(of(0), 1, 1))
			}
			if over == 1 {
				want(t, "Put", b.Put(frames, with(of(0), 1, 1)), api.ErrDown)
			}
			if d.Down() != (over == 1) {
				t.Errorf("%d frames, %d over: down: %v", frames, over, d.Down())
			}
		}
	}
}

func TestPagesOfTheBook(t *testing.T) {
	for _, n := range []int{24, 25, 99, 1 << 16} {
		b, _ := opened(t, formatted(t, n), 8)
		if _, pages, _, _ := change.Place(n); b.Pages() != pages {
			t.Errorf("%d blocks: %d pages", n, b.Pages())
		}
	}
}

// A crash within Open is told as such, with noughts.
func TestErrorsOfTheDevice(t *testing.T) {
	whole, _ := halfUndone(t, 2, true)
	for n := 1; ; n++ {
		d := whole.Copy()
		d.Arm(n)
		b, told, e := restore.Open(d, 8)
		if e == api.OK {
			if n < 8 {
				t.Errorf("%d writes", n-1)
			}
			return
		}
		want(t, "Open", e, api.ErrDown)
		if b != nil || told != (restore.Told{}) {
			t.Fatalf("crash at %d: %v, %+v", n, b, told)
		}
	}
}

// Logs that no book has written: the log's and the pool's errors end it.
func TestWrongLogs(t *testing.T) {
	some := func(r api.Record) api.Record {
		r.Tx = 1
		r.Kind = api.RecChange
		r.Span.Old, r.Span.New = []byte{0}, []byte{1}
		return r
	}
	commit := api.Record{Kind: api.RecCommit, Tx: 1}
	ended := api.Record{Kind: api.RecUndo, Tx: 1, Span: api.Span{New: []byte{1}}}
	for i, c := range []struct {
		records []api.Record
		want    api.Errno
	}{
		{[]api.Record{some(api.Record{Span: api.Span{Block: 9}}), commit}, api.OK},
		{[]api.Record{some(api.Record{Span: api.Span{Block: 10}}), commit}, api.ErrNone},
		{[]api.Record{some(api.Record{Span: api.Span{Block: 65535}}), commit}, api.ErrNone},
		{[]api.Record{commit, ended}, api.OK},
		// A record ahead that is none, the one itself, a commit, one that is undone, one that comes.
		{[]api.Record{some(api.Record{Prev: 7})}, api.ErrNone},
		{[]api.Record{some(api.Record{Prev: 1})}, api.ErrFull},
		{[]api.Record{commit, some(api.Record{Prev: 1})}, api.ErrShape},
		{[]api.Record{ended, some(api.Record{Prev: 1})}, api.ErrShape},
		{[]api.Record{some(api.Record{Prev: 46})}, api.ErrShape},
		{[]api.Record{some(api.Record{Prev: 1 << 62})}, api.ErrNone},
		{[]api.Record{some(api.Record{}), some(api.Record{Prev: 46})}, api.ErrFull},
	} {
		d := formatted(t, 24)
		s := byHand(t, d)
		for _, r := range c.records {
			s.append(t, r)
		}
		s.force(t)
		b, told, e := restore.Open(d, 8)
		want(t, "Open", e, c.want)
		if e != api.OK && (b != nil || told != (restore.Told{})) {
			t.Errorf("case %d: %v, %+v", i, b, told)
		}
	}
}

// R3, R4, R5.

// A book is the device's own, and shares nothing with another one of its twin.
func TestBooksAreNew(t *testing.T) {
	d, _ := halfUndone(t, 2, true)
	twin := d.Copy()
	one, toldOne := opened(t, d, 8)
	two, toldTwo := opened(t, twin, 8)
	wantTold(t, toldTwo, toldOne)
	if !reflect.DeepEqual(blocks(t, d), blocks(t, twin)) {
		t.Error("two that are alike are restored in two ways")
	}
	b, _ := one.Page(3)
	clear(b[:cap(b)])
	wantPage(t, one, 3, of(1))
	committed(t, one, 3, of(5))
	wantPage(t, two, 3, of(1))
	wantPage(t, one, 3, of(5))
}

// What is handed to Open is kept and worked on.
func TestTheDeviceIsWorkedOn(t *testing.T) {
	d := formatted(t, 24)
	b, _ := opened(t, d, 8)
	committed(t, b, 3, of(5))
	want(t, "Point", b.Point(), api.OK)
	if on, _ := d.Read(5); !bytes.Equal(on, of(5)) {
		t.Error("the page is not on the device")
	}
	crash(d)
	want(t, "Begin", b.Begin(), api.OK)
	put(t, b, 3, of(6))
	want(t, "Commit", b.Commit(), api.ErrDown)
}
