package pool_test

import (
	"bytes"
	"math"
	"slices"
	"testing"

	"parchment/api"
	"parchment/device"
	"parchment/log"
	"parchment/pool"
)

const (
	logBlocks = 10 // they stand ahead of the pages
	behind    = 2  // blocks behind the pages that are not the pool's
)

// filled is what a block is ahead of all.
func filled(block int) []byte {
	return bytes.Repeat([]byte{byte(block + 100)}, api.BlockSize)
}

// laid is a device of a log's area and so many pages, which are filled.
func laid(t *testing.T, pages int) *device.Device {
	t.Helper()
	d := device.New(logBlocks + pages + behind)
	for i := range pages + behind {
		if e := d.Write(logBlocks+i, filled(i)); e != api.OK {
			t.Fatal(e)
		}
	}
	d.Sync()
	return d
}

func begun(t *testing.T, pages, frames int) (*device.Device, *log.Log, *pool.Pool) {
	t.Helper()
	d := laid(t, pages)
	l, e := log.Open(d, 0, logBlocks, 1, 1)
	p := pool.New(d, l, logBlocks, pages, frames)
	if e != api.OK || p == nil {
		t.Fatal(e, p)
	}
	return d, l, p
}

// apart is a pool whose log is on another device.
func apart(t *testing.T, pages, frames int) (d, other *device.Device, l *log.Log, p *pool.Pool) {
	t.Helper()
	d = laid(t, pages)
	other = device.New(logBlocks)
	l, e := log.Open(other, 0, logBlocks, 1, 1)
	p = pool.New(d, l, logBlocks, pages, frames)
	if e != api.OK || p == nil {
		t.Fatal(e, p)
	}
	return d, other, l, p
}

// logged appends a record, and tells its lsn.
func logged(t *testing.T, l *log.Log) int64 {
	t.Helper()
	lsn, e := l.Append(api.Record{Kind: api.RecCommit, Tx: 1})
	if e != api.OK {
		t.Fatal(e)
	}
	return lsn
}

func span(page, off int, b ...byte) api.Span {
	return api.Span{Block: page, Off: off, New: b}
}

func wantChange(t *testing.T, p *pool.Pool, s api.Span, lsn int64) {
	t.Helper()
	if e := p.Change(s, lsn); e != api.OK {
		t.Fatalf("Change(%+v, %d) = %d", s, lsn, e)
	}
}

// wantNoChange holds what the pool tells ahead of a wrong call against what it tells behind it.
func wantNoChange(t *testing.T, p *pool.Pool, s api.Span, lsn int64, want api.Errno) {
	t.Helper()
	dirty, frames := p.Dirty(), p.Frames()
	if e := p.Change(s, lsn); e != want {
		t.Errorf("Change(%+v, %d) = %d; want %d", s, lsn, e, want)
	}
	wantDirty(t, p, dirty...)
	wantFrames(t, p, frames)
}

func wantPage(t *testing.T, p *pool.Pool, page int, want []byte) {
	t.Helper()
	if b, e := p.Read(page); e != api.OK || !bytes.Equal(b, want) {
		t.Fatalf("Read(%d) = %v, %d; want %v", page, b, e, want)
	}
}

func wantNoPage(t *testing.T, p *pool.Pool, page int, want api.Errno) {
	t.Helper()
	dirty, frames := p.Dirty(), p.Frames()
	if b, e := p.Read(page); e != want || len(b) > 0 {
		t.Errorf("Read(%d) = %v, %d; want %d", page, b, e, want)
	}
	if e := p.Hold(page); e != want {
		t.Errorf("Hold(%d) = %d; want %d", page, e, want)
	}
	wantDirty(t, p, dirty...)
	wantFrames(t, p, frames)
}

func wantHold(t *testing.T, p *pool.Pool, pages ...int) {
	t.Helper()
	for _, page := range pages {
		if e := p.Hold(page); e != api.OK {
			t.Fatalf("Hold(%d) = %d", page, e)
		}
	}
}

func wantLeave(t *testing.T, p *pool.Pool, page int, want bool) {
	t.Helper()
	if p.Leave(page) != want {
		t.Fatalf("Leave(%d) = %v", page, !want)
	}
}

func wantDirty(t *testing.T, p *pool.Pool, want ...api.Dirty) {
	t.Helper()
	if got := p.Dirty(); !slices.Equal(got, want) {
		t.Errorf("Dirty = %v; want %v", got, want)
	}
}

func wantFrames(t *testing.T, p *pool.Pool, want int) {
	t.Helper()
	if got := p.Frames(); got != want {
		t.Errorf("Frames = %d; want %d", got, want)
	}
}

func wantFlush(t *testing.T, p *pool.Pool, want api.Errno) {
	t.Helper()
	if e := p.Flush(); e != want {
		t.Fatalf("Flush = %d; want %d", e, want)
	}
}

// all is the fates that keep what was written last.
func all(d *device.Device) []api.Fate {
	var out []api.Fate
	for i := range d.Blocks() {
		out = append(out, api.Fate{Block: i, Keep: 255})
	}
	return out
}

// latest is a page's bytes on the device, as they were written last, if that crashed, too.
func latest(d *device.Device, page int) []byte {
	twin := d.Copy()
	twin.Wake(all(twin))
	b, _ := twin.Read(logBlocks + page)
	return b
}

// safe is a page's bytes on the device, if a crash keeps just what was synced.
func safe(d *device.Device, page int) []byte {
	twin := d.Copy()
	twin.Wake(nil)
	b, _ := twin.Read(logBlocks + page)
	return b
}

func wantOn(t *testing.T, d *device.Device, page int, want []byte) {
	t.Helper()
	if b := latest(d, page); !bytes.Equal(b, want) {
		t.Fatalf("page %d is %v on the device; want %v", page, b, want)
	}
}

// crash lets a device be down.
func crash(d *device.Device) {
	d.Arm(1)
	d.Sync()
}

// within are the pages that are in frames: those that can be read from a device that is down.
func within(d *device.Device, p *pool.Pool) []int {
	crash(d)
	var out []int
	for page := range p.Pages() {
		if _, e := p.Read(page); e == api.OK {
			out = append(out, page)
		}
	}
	d.Wake(all(d))
	return out
}

func wantWithin(t *testing.T, d *device.Device, p *pool.Pool, want ...int) {
	t.Helper()
	if got := within(d, p); !slices.Equal(got, want) {
		t.Errorf("in frames are %v; want %v", got, want)
	}
}

// with is a page's bytes with others in them.
func with(b []byte, off int, others ...byte) []byte {
	out := slices.Clone(b)
	copy(out[off:], others)
	return out
}

// fill brings pages into frames.
func fill(t *testing.T, p *pool.Pool, from, to int) {
	t.Helper()
	for page := from; page < to; page++ {
		wantPage(t, p, page, filled(page))
	}
}

// putOut lets a page of a pool of 8 frames go: for a while all frames hold others.
func putOut(t *testing.T, p *pool.Pool, page int) {
	t.Helper()
	var others []int
	for other := range p.Pages() {
		if other != page && len(others) < 8 {
			others = append(others, other)
		}
	}
	wantHold(t, p, others...)
	for _, other := range others {
		wantLeave(t, p, other, true)
	}
}

// The chapter's first example.
func TestTwentyPagesInEightFrames(t *testing.T) {
	d, l, p := begun(t, 20, 8)
	for i := range 20 {
		wantChange(t, p, span(i, i, 1, 2, 3), logged(t, l))
		wantFrames(t, p, min(i+1, 8))
		wantPage(t, p, i, with(filled(i), i, 1, 2, 3))
	}
	for i := range 20 {
		wantPage(t, p, i, with(filled(i), i, 1, 2, 3))
		wantFrames(t, p, 8)
	}
	wantFlush(t, p, api.OK)
	wantDirty(t, p)
	wantFrames(t, p, 8)
	for i := range 20 {
		if b := safe(d, i); !bytes.Equal(b, with(filled(i), i, 1, 2, 3)) {
			t.Errorf("page %d is not safe: %v", i, b)
		}
		wantPage(t, p, i, with(filled(i), i, 1, 2, 3))
	}
}

// The chapter's second example.
func TestNinthPage(t *testing.T) {
	_, _, p := begun(t, 20, 8)
	wantHold(t, p, 0, 1, 2, 3, 4, 5, 6, 7)
	wantNoPage(t, p, 8, api.ErrBusy)
}

// P11.1.

func TestNewRefuses(t *testing.T) {
	d := device.New(30)
	l, _ := log.Open(d, 0, 10, 1, 1)
	for i, c := range []struct {
		d                     *device.Device
		l                     *log.Log
		first, blocks, frames int
	}{
		{nil, l, 10, 20, 8},
		{&device.Device{}, l, 10, 20, 8},
		{device.New(0), l, 0, 1, 8},
		{d, nil, 10, 20, 8},
		{d, &log.Log{}, 10, 20, 8},
		{nil, nil, 10, 20, 8},
		{d, l, -1, 20, 8},
		{d, l, math.MinInt, 20, 8},
		{d, l, 11, 20, 8},
		{d, l, 30, 1, 8},
		{d, l, 31, 1, 8},
		{d, l, math.MaxInt, 1, 8},
		{d, l, math.MaxInt, math.MaxInt, 8},
		{d, l, 10, 0, 8},
		{d, l, 10, -1, 8},
		{d, l, 30, 0, 8},
		{d, l, 10, math.MinInt, 8},
		{d, l, 10, 21, 8},
		{d, l, 0, 31, 8},
		{d, l, 0, math.MaxInt, 8},
		{d, l, 1, math.MaxInt, 8},
		{d, l, 10, 20, 7},
		{d, l, 10, 20, 0},
		{d, l, 10, 20, -8},
		{d, l, 10, 20, 1025},
		{d, l, 10, 20, math.MaxInt},
		{d, l, 10, 20, math.MinInt},
	} {
		if p := pool.New(c.d, c.l, c.first, c.blocks, c.frames); p != nil {
			t.Errorf("case %d: a pool", i)
		}
	}
}

func TestNewAtTheEdges(t *testing.T) {
	d := device.New(30)
	l, _ := log.Open(d, 0, 4, 1<<61, 1)
	for _, c := range []struct{ first, blocks, frames int }{
		{0, 1, 8}, {0, 30, 8}, {29, 1, 8}, {10, 20, 8}, {10, 20, 1024}, {0, 30, 1024}, {5, 1, 9},
	} {
		p := pool.New(d, l, c.first, c.blocks, c.frames)
		if p == nil {
			t.Errorf("no pool of %+v", c)
			continue
		}
		if p.Pages() != c.blocks {
			t.Errorf("%d pages; want %d", p.Pages(), c.blocks)
		}
		wantFrames(t, p, 0)
		wantDirty(t, p)
	}
	great := device.New(api.MaxBlocks)
	if p := pool.New(great, l, 0, api.MaxBlocks, 8); p.Pages() != api.MaxBlocks {
		t.Errorf("%d pages", p.Pages())
	}
}

// A pool asks nothing of its device, and changes nothing on it, till it must.
func TestNewOfADeviceThatIsDown(t *testing.T) {
	d := laid(t, 20)
	l, _ := log.Open(d, 0, logBlocks, 1, 1)
	crash(d)
	p := pool.New(d, l, logBlocks, 20, 8)
	if p.Pages() != 20 {
		t.Fatal("no pool")
	}
	wantNoPage(t, p, 0, api.ErrDown)
	wantFrames(t, p, 0)
	d.Wake(nil)
	fill(t, p, 0, 20)
}

// P11.2.

func TestRead(t *testing.T) {
	d, _, p := begun(t, 20, 8)
	for _, page := range []int{19, 0, 7, 19, 19, 3, 0} {
		wantPage(t, p, page, filled(page))
	}
	wantFrames(t, p, 4)
	wantDirty(t, p)
	d.Arm(1) // nothing is written, if nothing was changed
	fill(t, p, 0, 20)
	wantFrames(t, p, 8)
	for i := range 20 + behind {
		wantOn(t, d, i, filled(i))
	}
}

func TestNoSuchPage(t *testing.T) {
	d, l, p := begun(t, 20, 8)
	lsn := logged(t, l)
	for _, down := range []bool{false, true} {
		if down {
			wantHold(t, p, 0, 1, 2, 3, 4, 5, 6, 7)
			crash(d)
		}
		for _, page := range []int{-1, 20, 21, -logBlocks, math.MaxInt, math.MinInt} {
			wantNoPage(t, p, page, api.ErrNone)
			wantNoChange(t, p, span(page, 0, 1), lsn, api.ErrNone)
			wantNoChange(t, p, span(page, -1), 0, api.ErrNone)
			wantLeave(t, p, page, false)
		}
	}
}

// What is in a frame is told whatever the device says; what is in none is told by the device.
func TestReadOfADeviceThatIsDown(t *testing.T) {
	d, l, p := begun(t, 20, 8)
	fill(t, p, 0, 8)
	wantChange(t, p, span(3, 5, 77), logged(t, l))
	crash(d)
	for page := range 20 {
		if page >= 8 {
			wantNoPage(t, p, page, api.ErrDown)
			wantNoChange(t, p, span(page, 0, 1), 1, api.ErrDown)
		} else if page != 3 {
			wantPage(t, p, page, filled(page))
		}
	}
	wantPage(t, p, 3, with(filled(3), 5, 77))
	wantChange(t, p, span(4, 5, 78), 1)
	wantPage(t, p, 4, with(filled(4), 5, 78))
	wantHold(t, p, 4)
	wantLeave(t, p, 4, true)
	wantLeave(t, p, 4, false)
}

// Wherever putting out a page crashes: the page stays in its frame, dirty, and nothing else has changed.
func TestReadThatCrashes(t *testing.T) {
	for n := 1; n <= 4; n++ {
		d, l, p := begun(t, 20, 8)
		for i := range 8 {
			wantChange(t, p, span(i, 9, byte(i)), logged(t, l))
		}
		dirty := p.Dirty()
		d.Arm(n)
		b, e := p.Read(8)
		if n == 4 { // the log's block, its sync, the page
			if e != api.OK || !bytes.Equal(b, filled(8)) || len(p.Dirty()) != 7 {
				t.Errorf("Read = %v, %d; dirty are %v", b, e, p.Dirty())
			}
			continue
		}
		if e != api.ErrDown || len(b) > 0 {
			t.Errorf("crash at %d: Read = %v, %d", n, b, e)
		}
		wantDirty(t, p, dirty...)
		wantFrames(t, p, 8)
		for i := range 8 {
			wantPage(t, p, i, with(filled(i), 9, byte(i)))
			if n < 3 {
				wantOn(t, d, i, filled(i))
			}
		}
		wantNoPage(t, p, 8, api.ErrDown)
		d.Wake(nil)
		wantPage(t, p, 8, filled(8))
		if left := p.Dirty(); len(left) != 7 || slices.ContainsFunc(left, func(x api.Dirty) bool { return !slices.Contains(dirty, x) }) {
			t.Errorf("dirty are %v; want seven of %v", left, dirty)
		}
		for i := range 8 {
			wantPage(t, p, i, with(filled(i), 9, byte(i)))
		}
	}
}

// The log has no device to be forced to: a page that is dirty by a record that is not safe is not written, and stays.
func TestLogThatIsDown(t *testing.T) {
	d, other, l, p := apart(t, 20, 8)
	for i := range 8 {
		wantChange(t, p, span(i, 9, byte(i)), logged(t, l))
	}
	dirty := p.Dirty()
	crash(other)
	wantNoPage(t, p, 8, api.ErrDown)
	wantNoChange(t, p, span(8, 0, 1), 1, api.ErrDown)
	wantFlush(t, p, api.ErrDown)
	wantDirty(t, p, dirty...)
	for i := range 20 {
		wantOn(t, d, i, filled(i))
	}
	other.Wake(nil)
	wantPage(t, p, 8, filled(8))
	wantFlush(t, p, api.OK)
	wantDirty(t, p)
	for i := range 8 {
		wantOn(t, d, i, with(filled(i), 9, byte(i)))
	}
}

// Pages whose changes are safe need no log: it may be down, and is not forced.
func TestLogIsForcedJustIfNeedBe(t *testing.T) {
	_, other, l, p := apart(t, 20, 8)
	for i := range 8 {
		wantChange(t, p, span(i, 9, byte(i)), logged(t, l))
	}
	l.Force()
	at := l.Safe()
	logged(t, l)
	crash(other)
	wantPage(t, p, 8, filled(8))
	wantFlush(t, p, api.OK)
	wantDirty(t, p)
	if l.Safe() != at {
		t.Errorf("safe up to %d; want %d", l.Safe(), at)
	}
}

// P11.3.

func TestChange(t *testing.T) {
	_, l, p := begun(t, 20, 8)
	want := filled(5)
	for i, c := range []struct {
		off int
		b   []byte
	}{
		{0, []byte{1}}, {511, []byte{2}}, {510, []byte{3, 4}}, {100, bytes.Repeat([]byte{5}, 64)},
		{150, []byte{6, 7}}, {0, bytes.Repeat([]byte{8}, 512)}, {1, bytes.Repeat([]byte{9}, 511)}, {0, bytes.Repeat([]byte{10}, 511)},
	} {
		lsn := logged(t, l)
		wantChange(t, p, api.Span{Block: 5, Off: c.off, Old: []byte{1, 2, 3}, New: c.b}, lsn)
		want = with(want, c.off, c.b...)
		wantPage(t, p, 5, want)
		wantDirty(t, p, api.Dirty{Block: 5, Lsn: 1})
		if i%3 == 0 {
			putOut(t, p, 5)
			wantDirty(t, p)
			wantPage(t, p, 5, want)
			wantChange(t, p, span(5, 0, want[0]), 1)
		}
	}
	wantPage(t, p, 4, filled(4))
	wantPage(t, p, 6, filled(6))
}

func TestChangeRefuses(t *testing.T) {
	d, l, p := begun(t, 20, 8)
	wantNoChange(t, p, span(1, 0, 1), 1, api.ErrArg) // nothing is logged yet
	lsn := logged(t, l)
	end := l.End()
	wantHold(t, p, 0, 1, 2, 3, 4, 5, 6, 7)
	for _, page := range []int{1, 12} { // one that is in a frame, one for which there is none
		for _, c := range []struct {
			s   api.Span
			lsn int64
		}{
			{api.Span{Block: page}, lsn},
			{api.Span{Block: page, New: []byte{}}, lsn},
			{api.Span{Block: page, Old: []byte{1}}, lsn},
			{api.Span{Block: page, Off: 512}, lsn},
			{span(page, -1, 1), lsn},
			{span(page, -1, 1, 2), lsn},
			{span(page, math.MinInt, 1), lsn},
			{span(page, 512, 1), lsn},
			{span(page, 513, 1), lsn},
			{span(page, 511, 1, 2), lsn},
			{span(page, math.MaxInt, 1), lsn},
			{span(page, 0, make([]byte, 513)...), lsn},
			{span(page, 1, make([]byte, 512)...), lsn},
			{span(page, -1, make([]byte, 513)...), lsn},
			{span(page, 0, 1), 0},
			{span(page, 0, 1), -1},
			{span(page, 0, 1), math.MinInt64},
			{span(page, 0, 1), end},
			{span(page, 0, 1), end + 1},
			{span(page, 0, 1), math.MaxInt64},
		} {
			wantNoChange(t, p, c.s, c.lsn, api.ErrArg)
		}
	}
	wantNoChange(t, p, span(12, 0, 1), lsn, api.ErrBusy)
	crash(d)
	wantNoChange(t, p, span(12, 0, 1), end, api.ErrArg)
	wantNoChange(t, p, span(12, 0, 1), lsn, api.ErrBusy)
	wantLeave(t, p, 0, true)
	wantNoChange(t, p, span(12, 0, 1), lsn, api.ErrDown)
	for i := range 8 {
		wantPage(t, p, i, filled(i))
	}
}

// From 1 to below the end: the lsn need be neither a record's nor one that is in the log still.
func TestChangeWithAnyLsn(t *testing.T) {
	_, l, p := begun(t, 20, 8)
	logged(t, l)
	logged(t, l)
	for page, lsn := range []int64{1, 2, 35, 36, 70} {
		wantChange(t, p, span(page, 0, 7), lsn)
	}
	wantNoChange(t, p, span(5, 0, 7), 71, api.ErrArg)
	if e := l.Trim(l.End()); e != api.OK {
		t.Fatal(e)
	}
	wantChange(t, p, span(5, 0, 7), 1)
	wantNoChange(t, p, span(6, 0, 7), 71, api.ErrArg)
	wantDirty(t, p, api.Dirty{Block: 0, Lsn: 1}, api.Dirty{Block: 1, Lsn: 2}, api.Dirty{Block: 2, Lsn: 35},
		api.Dirty{Block: 3, Lsn: 36}, api.Dirty{Block: 4, Lsn: 70}, api.Dirty{Block: 5, Lsn: 1})
}

// The last change's lsn is the greatest one: a page waits for that to be safe.
func TestLastLsn(t *testing.T) {
	for _, flush := range []bool{false, true} {
		for _, lsns := range [][]int64{{1, 36}, {36, 1}, {1, 36, 1}, {36, 36}, {36}, {2, 70, 3}, {70, 36}} {
			d, other, l, p := apart(t, 20, 8)
			logged(t, l)
			l.Force()
			logged(t, l)
			for i, lsn := range lsns {
				wantChange(t, p, span(0, i, 1), lsn)
			}
			want, _ := p.Read(0)
			write := func() api.Errno {
				if flush {
					return p.Flush()
				}
				wantHold(t, p, 1, 2, 3, 4, 5, 6, 7)
				_, e := p.Read(8)
				return e
			}
			crash(other)
			if e := write(); e != api.ErrDown {
				t.Errorf("%v: %d", lsns, e)
			}
			wantOn(t, d, 0, filled(0))
			other.Wake(nil)
			if e := write(); e != api.OK || l.Safe() != 71 {
				t.Errorf("%v: %d, safe up to %d", lsns, e, l.Safe())
			}
			wantOn(t, d, 0, want)
		}
	}
}

// The lsn right below the safe place is safe, the safe place is not.
func TestSafePlace(t *testing.T) {
	for _, c := range []struct {
		lsn  int64
		want int64
	}{{35, 36}, {36, 71}} {
		d, l, p := begun(t, 20, 8)
		logged(t, l)
		l.Force()
		logged(t, l)
		wantChange(t, p, span(0, 0, 1), c.lsn)
		wantHold(t, p, 1, 2, 3, 4, 5, 6, 7)
		wantPage(t, p, 8, filled(8))
		wantOn(t, d, 0, with(filled(0), 0, 1))
		if l.Safe() != c.want {
			t.Errorf("a change by %d: safe up to %d; want %d", c.lsn, l.Safe(), c.want)
		}
	}
}

// P11.4.

func TestHeldPagesStay(t *testing.T) {
	d, l, p := begun(t, 20, 8)
	wantHold(t, p, 4, 11, 4)
	wantFrames(t, p, 2)
	wantChange(t, p, span(4, 0, 9), logged(t, l))
	for range 3 {
		for page := range 20 {
			p.Read(page)
		}
		in := within(d, p)
		if len(in) != 8 || !slices.Contains(in, 4) || !slices.Contains(in, 11) {
			t.Errorf("in frames are %v", in)
		}
		wantDirty(t, p, api.Dirty{Block: 4, Lsn: 1}) // never put out, never written
		wantOn(t, d, 4, filled(4))
	}
	wantLeave(t, p, 4, true)
	wantLeave(t, p, 11, true)
	wantLeave(t, p, 11, false)
	putOut(t, p, 11)
	if in := within(d, p); !slices.Contains(in, 4) || slices.Contains(in, 11) {
		t.Errorf("in frames are %v", in)
	}
	wantLeave(t, p, 4, true)
	wantLeave(t, p, 4, false)
	putOut(t, p, 4)
	if in := within(d, p); slices.Contains(in, 4) {
		t.Errorf("in frames are %v", in)
	}
	wantDirty(t, p)
	wantOn(t, d, 4, with(filled(4), 0, 9))
}

func TestLeave(t *testing.T) {
	_, l, p := begun(t, 20, 8)
	for _, page := range []int{-1, 0, 19, 20} {
		wantLeave(t, p, page, false)
	}
	wantFrames(t, p, 0)
	fill(t, p, 0, 3)
	wantLeave(t, p, 0, false) // in a frame, and not held
	wantChange(t, p, span(1, 0, 1), logged(t, l))
	wantLeave(t, p, 1, false)
	for range 100 {
		wantHold(t, p, 2)
	}
	for range 100 {
		wantLeave(t, p, 2, true)
	}
	wantLeave(t, p, 2, false)
	wantLeave(t, p, 2, false)
	wantHold(t, p, 2) // what was not held owes nothing
	wantLeave(t, p, 2, true)
	wantLeave(t, p, 2, false)
	wantFrames(t, p, 3)
}

func TestAllFramesHeld(t *testing.T) {
	for _, frames := range []int{8, 9, 30} {
		_, l, p := begun(t, frames+5, frames)
		lsn := logged(t, l)
		for page := range frames {
			wantHold(t, p, page)
		}
		wantFrames(t, p, frames)
		for page := frames; page < frames+5; page++ {
			wantNoPage(t, p, page, api.ErrBusy)
			wantNoChange(t, p, span(page, 0, 1), lsn, api.ErrBusy)
			wantLeave(t, p, page, false)
		}
		for page := range frames { // these need no other frame
			wantPage(t, p, page, filled(page))
			wantChange(t, p, span(page, 0, filled(page)[0]), lsn)
			wantHold(t, p, page)
			wantLeave(t, p, page, true)
		}
		wantNoPage(t, p, frames, api.ErrBusy)
		wantLeave(t, p, 3, true)
		wantHold(t, p, frames+1) // in the place of the one that is not held
		wantNoPage(t, p, 3, api.ErrBusy)
		wantLeave(t, p, frames+1, true)
		wantPage(t, p, 3, filled(3))
	}
}

// ErrBusy goes ahead of what the device says.
func TestBusyAndDown(t *testing.T) {
	d, _, p := begun(t, 20, 8)
	wantHold(t, p, 0, 1, 2, 3, 4, 5, 6, 7)
	crash(d)
	wantNoPage(t, p, 8, api.ErrBusy)
	wantLeave(t, p, 7, true)
	wantNoPage(t, p, 8, api.ErrDown)
}

// P11.5.

func TestDirty(t *testing.T) {
	d, l, p := begun(t, 20, 8)
	var lsns []int64
	for range 6 {
		lsns = append(lsns, logged(t, l))
	}
	wantHold(t, p, 13, 2, 19, 0, 7)
	wantDirty(t, p)
	for i, page := range []int{13, 2, 19, 2, 0, 13} {
		wantChange(t, p, span(page, i, 1), lsns[i])
	}
	wantDirty(t, p, api.Dirty{Block: 0, Lsn: lsns[4]}, api.Dirty{Block: 2, Lsn: lsns[1]},
		api.Dirty{Block: 13, Lsn: lsns[0]}, api.Dirty{Block: 19, Lsn: lsns[2]})
	wantChange(t, p, span(2, 0, 1), lsns[0]) // the first one is the first that was done
	wantFlush(t, p, api.OK)
	wantDirty(t, p)
	if !bytes.Equal(safe(d, 2), with(filled(2), 0, 1, 1, 102, 1)) {
		t.Errorf("page 2 is %v", safe(d, 2))
	}
	wantChange(t, p, span(2, 0, 1), lsns[5]) // alike, and changed all the same
	wantDirty(t, p, api.Dirty{Block: 2, Lsn: lsns[5]})
	wantChange(t, p, span(2, 0, 1), lsns[3])
	wantDirty(t, p, api.Dirty{Block: 2, Lsn: lsns[5]})
}

// A page that is put out and read again begins anew.
func TestDirtyOfPagesThatCome(t *testing.T) {
	_, l, p := begun(t, 20, 8)
	first := logged(t, l)
	wantChange(t, p, span(0, 0, 1), first)
	putOut(t, p, 0)
	wantDirty(t, p)
	wantPage(t, p, 0, with(filled(0), 0, 1))
	wantDirty(t, p)
	second := logged(t, l)
	wantChange(t, p, span(0, 1, 2), second)
	wantDirty(t, p, api.Dirty{Block: 0, Lsn: second})
}

// Whatever Flush crashes at: the log first, then the pages, rising, then the sync.
func TestFlushThatCrashes(t *testing.T) {
	for n := 1; n <= 8; n++ {
		d, l, p := begun(t, 20, 8)
		var dirty []api.Dirty
		for _, page := range []int{7, 2, 19, 4} {
			lsn := logged(t, l)
			wantChange(t, p, span(page, 3, 1, 2), lsn)
			dirty = append(dirty, api.Dirty{Block: page, Lsn: lsn})
		}
		dirty = []api.Dirty{dirty[1], dirty[3], dirty[0], dirty[2]}
		d.Arm(n)
		want := api.ErrDown
		if n == 8 { // the log's block, its sync, four pages, the sync
			want = api.OK
		}
		wantFlush(t, p, want)
		whole := max(0, min(n-3, 4)) // pages whose write was told as done
		wantDirty(t, p, dirty[whole:]...)
		for i, x := range dirty {
			is := filled(x.Block)
			if i <= n-3 { // the crash was at this one's write, or behind it
				is = with(is, 3, 1, 2)
			}
			wantOn(t, d, x.Block, is)
			wantPage(t, p, x.Block, with(filled(x.Block), 3, 1, 2))
			if synced := bytes.Equal(safe(d, x.Block), with(filled(x.Block), 3, 1, 2)); synced != (n == 8) {
				t.Errorf("crash at %d: page %d synced: %v", n, x.Block, synced)
			}
		}
		wantFrames(t, p, 4)
		if n == 8 {
			continue
		}
		wantFlush(t, p, api.ErrDown)
		wantDirty(t, p, dirty[whole:]...)
		d.Wake(all(d))
		wantFlush(t, p, api.OK)
		wantDirty(t, p)
		for _, x := range dirty {
			if !bytes.Equal(safe(d, x.Block), with(filled(x.Block), 3, 1, 2)) {
				t.Errorf("crash at %d: page %d is %v", n, x.Block, safe(d, x.Block))
			}
		}
	}
}

// With no page dirty, too, the device is synced: pages that were put out are safe then.
func TestFlushSyncs(t *testing.T) {
	d, l, p := begun(t, 20, 8)
	wantChange(t, p, span(0, 0, 1), logged(t, l))
	l.Force()
	putOut(t, p, 0)
	wantDirty(t, p)
	wantOn(t, d, 0, with(filled(0), 0, 1))
	wantFlush(t, p, api.OK)
	if !bytes.Equal(safe(d, 0), with(filled(0), 0, 1)) {
		t.Error("page 0 is not safe")
	}
	d.Arm(1)
	wantFlush(t, p, api.ErrDown)
	wantFlush(t, p, api.ErrDown)
}

// Held pages are flushed, and stay where they are.
func TestFlushOfHeldPages(t *testing.T) {
	d, l, p := begun(t, 20, 8)
	wantHold(t, p, 0, 1, 2, 3, 4, 5, 6, 7)
	for i := range 8 {
		wantChange(t, p, span(i, 0, 1), logged(t, l))
	}
	wantFlush(t, p, api.OK)
	wantDirty(t, p)
	wantNoPage(t, p, 8, api.ErrBusy)
	for i := range 8 {
		wantOn(t, d, i, with(filled(i), 0, 1))
		wantLeave(t, p, i, true)
	}
	wantPage(t, p, 8, filled(8))
}

func TestMostFrames(t *testing.T) {
	_, l, p := begun(t, 1030, api.MaxFrames)
	lsn := logged(t, l)
	for i := range 1030 {
		wantChange(t, p, span(i, 1, byte(i), byte(i>>8)), lsn)
		wantFrames(t, p, min(i+1, 1024))
	}
	if n := len(p.Dirty()); n != 1024 {
		t.Errorf("%d pages are dirty", n)
	}
	for i := range 1030 {
		wantPage(t, p, i, with(filled(i), 1, byte(i), byte(i>>8)))
	}
	wantFlush(t, p, api.OK)
	wantDirty(t, p)
}

// Fewer pages than frames.
func TestOnePage(t *testing.T) {
	d, l, p := begun(t, 1, 8)
	wantChange(t, p, span(0, 0, 1), logged(t, l))
	wantFrames(t, p, 1)
	wantNoPage(t, p, 1, api.ErrNone)
	wantFlush(t, p, api.OK)
	wantOn(t, d, 0, with(filled(0), 0, 1))
	wantOn(t, d, 1, filled(1))
}

// Which page goes is the pool's own: one that is asked for again and again stays, others go in turn.
func TestPagesThatAreAskedForStay(t *testing.T) {
	d, _, p := begun(t, 40, 8)
	fill(t, p, 0, 2)
	for page := range 2 {
		d.Write(logBlocks+page, filled(99)) // it would be told, if they were ever read again
	}
	for page := 2; page < 40; page++ {
		fill(t, p, 0, 2)
		fill(t, p, page, page+1)
	}
	wantWithin(t, d, p, 0, 1, 34, 35, 36, 37, 38, 39)
}

// Once all were asked for, none is spared: they go in turn.
func TestAllPagesAskedFor(t *testing.T) {
	d, _, p := begun(t, 40, 8)
	fill(t, p, 0, 8)
	fill(t, p, 0, 8)
	fill(t, p, 8, 9)
	wantWithin(t, d, p, 1, 2, 3, 4, 5, 6, 7, 8)
	fill(t, p, 9, 17)
	wantWithin(t, d, p, 9, 10, 11, 12, 13, 14, 15, 16)
}

// What can't go on, by the page that comes or by the one that goes, leaves the choice as it was.
func TestTheChoiceStays(t *testing.T) {
	for down := range 3 {
		d, other, l, p := apart(t, 40, 8)
		for range 2 {
			for page := range 8 {
				wantChange(t, p, span(page, 0, 9), logged(t, l))
			}
		}
		if down > 0 {
			which := []*device.Device{nil, other, d}[down]
			crash(which)
			wantNoPage(t, p, 8, api.ErrDown)
			which.Wake(nil)
		}
		wantPage(t, p, 0, with(filled(0), 0, 9))
		wantPage(t, p, 8, filled(8))
		wantWithin(t, d, p, 1, 2, 3, 4, 5, 6, 7, 8)
	}
}

// R3.

// roomy is bytes with spare room behind them.
func roomy(b ...byte) []byte {
	return append(make([]byte, 0, len(b)+32), b...)
}

// scribble writes over bytes and the spare room behind them.
func scribble(b []byte) {
	b = b[:cap(b)]
	for i := range b {
		b[i] = 255
	}
}

func TestWhatIsHandedInIsLeft(t *testing.T) {
	d, l, p := begun(t, 20, 8)
	lsn := logged(t, l)
	old, b := roomy(5, 6), roomy(1, 2, 3)
	want := slices.Clone(b[:cap(b)])
	wantChange(t, p, api.Span{Block: 3, Off: 7, Old: old, New: b}, lsn)
	wantFlush(t, p, api.OK)
	if !bytes.Equal(b[:cap(b)], want) || !bytes.Equal(old, []byte{5, 6}) {
		t.Error("the span was changed")
	}
	scribble(b)
	scribble(old)
	wantPage(t, p, 3, with(filled(3), 7, 1, 2, 3))
	wantOn(t, d, 3, with(filled(3), 7, 1, 2, 3))
}

func TestWhatIsHandedOutIsNew(t *testing.T) {
	_, l, p := begun(t, 20, 8)
	lsn := logged(t, l)
	wantChange(t, p, span(3, 7, 1), lsn)
	wantChange(t, p, span(5, 7, 1), lsn)
	one, _ := p.Read(3)
	two, _ := p.Read(3)
	scribble(one)
	if !bytes.Equal(two, with(filled(3), 7, 1)) {
		t.Error("two answers share bytes")
	}
	wantPage(t, p, 3, with(filled(3), 7, 1))
	dirty, other := p.Dirty(), p.Dirty()
	for i := range dirty[:cap(dirty)] {
		dirty[:cap(dirty)][i] = api.Dirty{Block: 99, Lsn: 99}
	}
	want := []api.Dirty{{Block: 3, Lsn: lsn}, {Block: 5, Lsn: lsn}}
	if !slices.Equal(other, want) {
		t.Error("two answers share a list")
	}
	wantDirty(t, p, want...)
}

// R5.

func TestNoPool(t *testing.T) {
	for _, p := range []*pool.Pool{nil, {}, new(pool.Pool), pool.New(nil, nil, 0, 0, 0)} {
		for _, page := range []int{-1, 0, 1} {
			if b, e := p.Read(page); e != api.ErrNil || len(b) > 0 {
				t.Errorf("Read = %v, %d", b, e)
			}
			for _, s := range []api.Span{span(page, 0, 1), span(page, -1)} {
				if e := p.Change(s, 1); e != api.ErrNil {
					t.Errorf("Change = %d", e)
				}
			}
			if e := p.Hold(page); e != api.ErrNil {
				t.Errorf("Hold = %d", e)
			}
			wantLeave(t, p, page, false)
		}
		wantDirty(t, p)
		wantFlush(t, p, api.ErrNil)
		wantFrames(t, p, 0)
		if p.Pages() != 0 {
			t.Errorf("Pages = %d", p.Pages())
		}
	}
}

// A pool that is copied shares all with the one that it is of.
func TestCopyOfAPool(t *testing.T) {
	_, l, p := begun(t, 20, 8)
	twin := *p
	lsn := logged(t, l)
	for i := range 20 {
		wantChange(t, p, span(i, 0, 1), lsn)
		wantPage(t, &twin, i, with(filled(i), 0, 1))
		wantPage(t, &twin, (i*7)%(i+1), with(filled((i*7)%(i+1)), 0, 1))
	}
	wantFrames(t, &twin, 8)
	wantFlush(t, &twin, api.OK)
	wantDirty(t, p)
}
