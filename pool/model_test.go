package pool_test

import (
	"bytes"
	"encoding/binary"
	"math/rand"
	"slices"
	"testing"

	"parchment/api"
	"parchment/device"
	"parchment/log"
	"parchment/pool"
)

// version is what a page was behind a change, and the greatest lsn up to there; each is like no other one of its page.
type version struct {
	lsn, most int64
	bytes     []byte
}

// model is a pool in the chapter's words: of each page all that it ever was, and which of these was written last. What the pool's own is (which pages are in frames, which are written when) is taken from the device.
type model struct {
	d       *device.Device
	l       *log.Log
	p       *pool.Pool
	most    int
	turn    int64
	changes uint32
	pages   [][]version
	on      []int // the version that was written last
	torn    int   // the page at whose write the device crashed; -1: none
	holds   []int
}

func newModel(t *testing.T, pages, frames int) *model {
	t.Helper()
	m := &model{d: laid(t, pages), most: frames}
	m.begin(t, pages)
	return m
}

// begin makes a log and a pool of what the device says now.
func (m *model) begin(t *testing.T, pages int) {
	t.Helper()
	m.turn++
	oldest := int64(1)
	if m.l != nil {
		oldest = m.l.Oldest()
	}
	l, e := log.Open(m.d, 0, logBlocks, oldest, m.turn)
	if e != api.OK {
		t.Fatal(e)
	}
	m.l = l
	m.p = pool.New(m.d, l, logBlocks, pages, m.most)
	m.pages, m.on, m.holds, m.torn = nil, make([]int, pages), make([]int, pages), -1
	for i := range pages {
		m.pages = append(m.pages, []version{{bytes: latest(m.d, i)}})
	}
}

func (m *model) is(page int) version {
	return m.pages[page][len(m.pages[page])-1]
}

// told is the error that a call on a page is told that asks for none that is wrong; either of them, if the device is down: the page may be in a frame.
func (m *model) told(t *testing.T, page int, e api.Errno) bool {
	t.Helper()
	if page < 0 || page >= len(m.pages) {
		if e != api.ErrNone {
			t.Fatalf("page %d: %d", page, e)
		}
		return false
	}
	held := 0
	for _, n := range m.holds {
		held += min(n, 1)
	}
	if held == m.most && m.holds[page] == 0 {
		if e != api.ErrBusy {
			t.Fatalf("page %d: %d, and all frames are held", page, e)
		}
		return false
	}
	if e == api.ErrDown && m.d.Down() && m.holds[page] == 0 && m.on[page] == len(m.pages[page])-1 {
		return false
	}
	if e != api.OK {
		t.Fatalf("page %d: %d", page, e)
	}
	return true
}

func (m *model) read(t *testing.T, page int) {
	t.Helper()
	b, e := m.p.Read(page)
	if !m.told(t, page, e) {
		if len(b) > 0 {
			t.Fatalf("Read(%d) = %v, %d", page, b, e)
		}
		return
	}
	if !bytes.Equal(b, m.is(page).bytes) {
		t.Fatalf("Read(%d) = %v; want %v", page, b, m.is(page).bytes)
	}
	scribble(b)
}

// change puts a new number into a page, and what else there is room for.
func (m *model) change(t *testing.T, page, off int, lsn int64) {
	t.Helper()
	m.changes++
	b := binary.BigEndian.AppendUint32(nil, m.changes)
	e := m.p.Change(span(page, off, b...), lsn)
	if page >= 0 && page < len(m.pages) && (off < 0 || off > 508 || lsn < 1 || lsn >= m.l.End()) {
		if e != api.ErrArg {
			t.Fatalf("Change(%d, %d, %d) = %d", page, off, lsn, e)
		}
		return
	}
	if !m.told(t, page, e) {
		return
	}
	was := m.is(page)
	m.pages[page] = append(m.pages[page], version{lsn, max(lsn, was.most), with(was.bytes, off, b...)})
}

func (m *model) hold(t *testing.T, page int) {
	t.Helper()
	if m.told(t, page, m.p.Hold(page)) {
		m.holds[page]++
	}
}

func (m *model) leave(t *testing.T, page int) {
	t.Helper()
	want := page >= 0 && page < len(m.pages) && m.holds[page] > 0
	wantLeave(t, m.p, page, want)
	if want {
		m.holds[page]--
	}
}

func (m *model) flush(t *testing.T) {
	t.Helper()
	e := m.p.Flush()
	if e == api.ErrDown && m.d.Down() {
		return
	}
	if e != api.OK {
		t.Fatalf("Flush = %d", e)
	}
	wantDirty(t, m.p)
	for page := range m.pages {
		if !bytes.Equal(safe(m.d, page), m.is(page).bytes) {
			t.Fatalf("page %d is not safe", page)
		}
	}
}

// append puts a record into the log, and lets go of the others, if there is not much room.
func (m *model) append(t *testing.T) int64 {
	t.Helper()
	if m.l.Room() < 100 {
		if e := m.l.Trim(m.l.End()); e != api.OK {
			t.Fatal(e)
		}
	}
	return logged(t, m.l)
}

// check holds what is on the device, and all that the pool tells without being asked for a page, against the words. In a call that crashes one page may come onto the device that was not told as written.
func (m *model) check(t *testing.T, awake bool) {
	t.Helper()
	twin := m.d.Copy()
	twin.Wake(all(twin))
	dirty := m.p.Dirty()
	var want []api.Dirty
	for page, versions := range m.pages {
		b, _ := twin.Read(logBlocks + page)
		at := slices.IndexFunc(versions, func(v version) bool { return bytes.Equal(v.bytes, b) })
		if at < m.on[page] {
			t.Fatalf("page %d is as it never was, or as it was long ago: %v", page, b)
		}
		if at > m.on[page] && versions[at].most >= m.l.Safe() {
			t.Fatalf("page %d is ahead of its log: %d, safe is %d", page, versions[at].most, m.l.Safe())
		}
		still := func(d api.Dirty) bool { return d.Block == page }
		if awake && m.d.Down() && at > m.on[page] && m.torn < 0 && slices.ContainsFunc(dirty, still) {
			m.torn = page
		}
		if page != m.torn {
			m.on[page] = at
		}
		if next := m.on[page] + 1; next < len(versions) {
			want = append(want, api.Dirty{Block: page, Lsn: versions[next].lsn})
		}
	}
	if !slices.Equal(dirty, want) {
		t.Fatalf("Dirty = %v; want %v", dirty, want)
	}
	if n := m.p.Frames(); n < len(want) || n > m.most || m.p.Pages() != len(m.pages) {
		t.Fatalf("%d pages in frames, %d in all; %d are dirty", n, m.p.Pages(), len(want))
	}
	for i := range behind {
		if b, _ := twin.Read(logBlocks + len(m.pages) + i); !bytes.Equal(b, filled(len(m.pages)+i)) {
			t.Fatalf("a block behind the pages was written: %v", b)
		}
	}
}

// asleep holds against the words what is told while the device is down: as many pages as there are in frames, and nothing of others.
func (m *model) asleep(t *testing.T) {
	t.Helper()
	var in []int
	held := 0
	for page, n := range m.holds {
		held += min(n, 1)
		b, e := m.p.Read(page)
		if e == api.OK {
			in = append(in, page)
			if !bytes.Equal(b, m.is(page).bytes) {
				t.Fatalf("Read(%d) = %v; want %v", page, b, m.is(page).bytes)
			}
		} else if n > 0 {
			t.Fatalf("page %d is held, and not there: %d", page, e)
		}
	}
	if len(in) != m.p.Frames() {
		t.Fatalf("in frames are %v; %d are told", in, m.p.Frames())
	}
	for page := range m.pages {
		if slices.Contains(in, page) {
			continue
		}
		want := api.ErrDown
		if held == m.most {
			want = api.ErrBusy
		}
		if _, e := m.p.Read(page); e != want {
			t.Fatalf("Read(%d) = %d; want %d", page, e, want)
		}
	}
	m.check(t, false)
}

// step is one call, by numbers that say which.
func (m *model) step(t *testing.T, what, page, off int, lsn int64) {
	t.Helper()
	awake := !m.d.Down()
	switch what {
	case 0:
		m.read(t, page)
	case 1:
		m.change(t, page, off, lsn)
	case 2:
		m.hold(t, page)
	case 3:
		m.leave(t, page)
	case 4:
		m.flush(t)
	case 5:
		m.l.Force()
	}
	m.check(t, awake)
}

// All short rows of calls, with six of eight frames held, on four pages: so each that comes puts another one out.
func TestShortRows(t *testing.T) {
	const calls = 18
	for row := range calls * calls * calls {
		m := newModel(t, 12, 8)
		for page := 4; page < 10; page++ {
			m.hold(t, page)
		}
		for left := row; left > 0; left /= calls {
			call := left % calls
			if call < 16 {
				m.step(t, call/4, call%4, 9, m.append(t))
			} else {
				m.step(t, call-12, 0, 0, 0)
			}
		}
		for page := range 4 {
			m.read(t, page)
		}
		m.flush(t)
		m.check(t, true)
	}
}

// pick is a number of a page, now and then of one that is not there.
func pick(r *rand.Rand, pages int) int {
	if r.Intn(30) == 0 {
		return []int{-1, pages, pages + 1, -pages}[r.Intn(4)]
	}
	return r.Intn(pages)
}

// any is a step of a long way: holds are rare, so that frames are free often.
func (m *model) any(t *testing.T, r *rand.Rand) {
	t.Helper()
	lsn := m.append(t)
	if r.Intn(3) == 0 { // one that is not the newest, or is none
		lsn += int64(r.Intn(80)) - 70
	}
	off := r.Intn(509)
	if r.Intn(20) == 0 {
		off = []int{-1, 0, 508, 509, 512}[r.Intn(5)]
	}
	what := []int{0, 0, 0, 1, 1, 1, 1, 1, 2, 3, 3, 4, 5}[r.Intn(13)]
	if what == 4 && r.Intn(3) > 0 {
		what = 1
	}
	m.step(t, what, pick(r, len(m.pages)), off, lsn)
}

func TestLongWays(t *testing.T) {
	for seed := range int64(12) {
		r := rand.New(rand.NewSource(seed))
		m := newModel(t, 1+r.Intn(30), 8+r.Intn(5))
		for range 600 {
			m.any(t, r)
		}
		for page := range m.pages {
			for m.holds[page] > 0 {
				m.leave(t, page)
			}
		}
		for page := range m.pages {
			m.read(t, page)
		}
		m.flush(t)
	}
}

// Frames that are held more and more, till no other page can come, and left again.
func TestLongWaysOfHolds(t *testing.T) {
	for seed := range int64(6) {
		r := rand.New(rand.NewSource(seed))
		m := newModel(t, 14, 8)
		for i := range 600 {
			what := []int{0, 1, 2, 2, 3}[r.Intn(5)]
			if i%100 > 50 {
				what = []int{0, 1, 2, 3, 3}[r.Intn(5)]
			}
			m.step(t, what, pick(r, 14), r.Intn(509), m.append(t))
		}
	}
}

// Ways with a crash: what the pool has goes on being told; what is on the device, whatever stays, is sectors of pages that were.
func TestLongWaysWithCrashes(t *testing.T) {
	for seed := range int64(10) {
		r := rand.New(rand.NewSource(seed))
		m := newModel(t, 9+r.Intn(10), 8)
		for range 12 {
			m.d.Arm(1 + r.Intn(60))
			for range 300 {
				if m.d.Down() {
					break
				}
				m.any(t, r)
			}
			if m.d.Down() {
				m.asleep(t)
				for range 10 {
					m.any(t, r)
				}
				m.asleep(t)
			}
			m.wake(t, r)
			m.begin(t, len(m.pages))
		}
	}
}

// wake lets some sectors stay.
func (m *model) wake(t *testing.T, r *rand.Rand) {
	t.Helper()
	var fates []api.Fate
	for block := range m.d.Blocks() {
		if r.Intn(2) == 0 {
			fates = append(fates, api.Fate{Block: block, Keep: uint8(r.Intn(256))})
		}
	}
	m.d.Wake(fates)
	for page, versions := range m.pages {
		b := latest(m.d, page)
		for at := 0; at < api.BlockSize; at += api.Sector {
			was := func(v version) bool {
				return v.most < m.l.Safe() && bytes.Equal(v.bytes[at:at+api.Sector], b[at:at+api.Sector])
			}
			if !slices.ContainsFunc(versions, was) {
				t.Fatalf("page %d, from byte %d on, is as it never was", page, at)
			}
		}
	}
}
