package log_test

import (
	"bytes"
	"encoding/binary"
	"math/rand"
	"slices"
	"testing"

	"parchment/api"
	"parchment/device"
	"parchment/log"
)

// model is a log in the chapter's words, and what must be on its device: an area of it, and a block to either side that is none of the log's.
type model struct {
	count             int
	turn              int64
	oldest, safe, end int64
	records           []api.Record   // all that were ever in it, and not lost
	at                map[int64]byte // the log's bytes by their places
	blocks            [][]byte       // of the device
}

func newModel(count int) *model {
	m := &model{count: count, at: map[int64]byte{}}
	for i := range count + 2 {
		m.blocks = append(m.blocks, bytes.Repeat([]byte{byte(i * 3)}, 512))
	}
	return m
}

func (m *model) device(t *testing.T) *device.Device {
	t.Helper()
	d := device.New(len(m.blocks))
	for i, b := range m.blocks {
		write(t, d, i, b)
	}
	return d
}

// sector is that of a place, in the model's blocks.
func (m *model) sector(place int64) []byte {
	n := int((place - 1) / 51 % int64(8*m.count))
	return m.blocks[1+n/8][n%8*64:][:64]
}

// stands are the bytes that stand from a place on.
func (m *model) stands(place, turn int64) []byte {
	var out []byte
	last := uint32(1)
	for p := place; ; {
		ahead := (p - 1) % 51
		s := m.sector(p)
		told, t, used := binary.BigEndian.Uint64(s), binary.BigEndian.Uint32(s[8:]), int64(s[12])
		if told != uint64(p-ahead) || t < last || int64(t) >= turn || used > 51 || used < ahead {
			return out
		}
		out = append(out, s[13+ahead:13+used]...)
		if used < 51 {
			return out
		}
		p += 51 - ahead
		last = t
	}
}

// open is what Open must find; whether it cuts anything off; and the block that it writes then.
func (m *model) open(oldest, turn int64) (records []api.Record, cuts bool) {
	b := m.stands(oldest, turn)
	end := oldest
	last := int64(1)
	for {
		r, n, e := log.Get(b[end-oldest:])
		if e != api.OK || r.Lsn != end || r.Turn >= turn || r.Turn < last || end-oldest+int64(n) > int64(408*(m.count-1)) {
			break
		}
		records = append(records, r)
		end += int64(n)
		last = r.Turn
	}
	m.oldest, m.safe, m.end, m.turn, m.records = oldest, end, end, turn, slices.Clone(records)
	m.at = map[int64]byte{}
	for i, c := range b[:end-oldest] {
		m.at[oldest+int64(i)] = c
	}
	return records, end < oldest+int64(len(b))
}

// cutOff is the end's block, its sector written anew.
func (m *model) cutOff() (int, []byte) {
	ahead := (m.end - 1) % 51
	n := int((m.end - 1) / 51 % int64(8*m.count))
	b := bytes.Clone(m.blocks[1+n/8])
	copy(b[n%8*64:], sector(m.end-ahead, m.turn, b[n%8*64+13:][:ahead]))
	return 1 + n/8, b
}

func (m *model) room() int {
	return 408*(m.count-1) - int(m.end-m.oldest)
}

func (m *model) append(r api.Record) (int64, api.Errno) {
	r.Lsn, r.Turn = m.end, m.turn
	b, e := log.Put(r)
	if e != api.OK {
		return 0, api.ErrShape
	}
	if len(b) > m.room() {
		return 0, api.ErrFull
	}
	for i, c := range b {
		m.at[m.end+int64(i)] = c
	}
	m.records = append(m.records, r)
	m.end += int64(len(b))
	return r.Lsn, api.OK
}

// from are the records from the oldest place on.
func (m *model) from() []api.Record {
	var out []api.Record
	for _, r := range m.records {
		if r.Lsn >= m.oldest {
			out = append(out, r)
		}
	}
	return out
}

// writing is one block that is written, and what is in it.
type writing struct {
	block int
	bytes []byte
}

// force is what Force writes, in order.
func (m *model) force() []writing {
	var out []writing
	now := slices.Clone(m.blocks)
	for k := (m.safe - 1) / 408; m.safe < m.end && k*408+1 < m.end; k++ {
		n := 1 + int(k%int64(m.count))
		b := bytes.Clone(now[n])
		for s := range int64(8) {
			p := k*408 + s*51 + 1
			switch {
			case p+51 <= m.safe:
			case p > m.end:
				copy(b[s*64:], make([]byte, 64))
			default:
				var used []byte
				for q := p; q < p+51 && q < m.end; q++ {
					c, ok := m.at[q]
					if !ok { // ahead of all that the log knows of
						c = b[s*64+13+q-p]
					}
					used = append(used, c)
				}
				copy(b[s*64:], sector(p, m.turn, used))
			}
		}
		now[n] = b
		out = append(out, writing{n, b})
	}
	return out
}

// wake mixes what was written and not synced with what was safe, sector by sector.
func (m *model) wake(ws []writing, fates []api.Fate) {
	latest := map[int][]byte{}
	for _, w := range ws {
		latest[w.block] = w.bytes
	}
	for _, f := range fates {
		b, ok := latest[f.Block]
		if !ok {
			continue
		}
		mixed := bytes.Clone(m.blocks[f.Block])
		for s := range 8 {
			if f.Keep>>s&1 == 1 {
				copy(mixed[s*64:s*64+64], b[s*64:])
			}
		}
		m.blocks[f.Block] = mixed
	}
}

// fates are a choice for each block; some choose all, or nothing.
func fates(rnd *rand.Rand, blocks int) []api.Fate {
	var out []api.Fate
	how := rnd.Intn(4)
	for i := range blocks {
		f := api.Fate{Block: i, Keep: uint8(rnd.Intn(256))}
		if how == 0 || how == 1 && rnd.Intn(2) == 0 {
			f.Keep = []uint8{0, 255}[rnd.Intn(2)]
		}
		out = append(out, f)
	}
	return out
}

func (m *model) wantSame(t *testing.T, d *device.Device, l *log.Log) {
	t.Helper()
	wantPlaces(t, l, m.oldest, m.safe, m.end)
	wantRecords(t, l, m.from())
	if l.Room() != m.room() {
		t.Fatalf("Room %d, want %d", l.Room(), m.room())
	}
	if d.Down() {
		return
	}
	for i, b := range m.blocks {
		wantBlock(t, d, i, b)
	}
}

// anyRecord is one that is right, but for a few.
func anyRecord(rnd *rand.Rand) api.Record {
	n := 1 + rnd.Intn(20)
	switch rnd.Intn(6) {
	case 0:
		n = 1 + rnd.Intn(512)
	case 1:
		n = 4 // a sector's bytes
	}
	off := rnd.Intn(513 - n)
	tx, prev := rnd.Int63n(1<<62), rnd.Int63n(1000)
	old, new := make([]byte, n), make([]byte, n)
	rnd.Read(old)
	rnd.Read(new)
	span := api.Span{Block: rnd.Intn(1 << 16), Off: off, Old: old, New: new}
	switch rnd.Intn(9) {
	case 0:
		return api.Record{Kind: api.RecCommit, Tx: tx, Prev: prev}
	case 1:
		return api.Record{Kind: api.RecAbort, Tx: tx, Prev: prev}
	case 2:
		return api.Record{Kind: api.RecordKind(rnd.Intn(6)), Tx: tx - 5, Prev: prev, Next: int64(rnd.Intn(2)), Span: span}
	case 3, 4:
		span.Old = nil
		return api.Record{Kind: api.RecUndo, Tx: tx, Prev: prev, Next: prev * 7, Span: span}
	}
	return api.Record{Kind: api.RecChange, Tx: tx, Prev: prev, Span: span}
}

// walk is a log and its model on their way.
type walk struct {
	t   *testing.T
	rnd *rand.Rand
	d   *device.Device
	l   *log.Log
	m   *model
}

// force lets the device crash at some write or sync, or at none.
func (w *walk) force() {
	w.t.Helper()
	ws := w.m.force()
	n := 0
	if w.rnd.Intn(2) == 0 {
		n = 1 + w.rnd.Intn(len(ws)+2)
	}
	w.d.Arm(n)
	steps := len(ws) + 1
	if len(ws) == 0 {
		steps = 0
	}
	if n == 0 || n > steps {
		if e := w.l.Force(); e != api.OK {
			w.t.Fatalf("Force = %d", e)
		}
		w.d.Arm(0)
		w.m.safe = w.m.end
		for _, x := range ws {
			w.m.blocks[x.block] = x.bytes
		}
		return
	}
	if e := w.l.Force(); e != api.ErrDown {
		w.t.Fatalf("Force = %d; a crash at %d of %d", e, n, len(ws))
	}
	w.m.wantSame(w.t, w.d, w.l)
	f := fates(w.rnd, len(w.m.blocks))
	w.d.Wake(f)
	w.m.wake(ws[:min(n, len(ws))], f)
	// A log may go on behind a crash; mostly it is opened anew.
	if w.rnd.Intn(5) > 0 {
		w.reopen()
	}
}

// reopen holds what Open finds against the model of the stamps, and (P10.6) against what the log had.
func (w *walk) reopen() {
	w.t.Helper()
	had, safe, oldest := w.m.from(), w.m.safe, w.m.oldest
	turn := w.m.turn + 1 + int64(w.rnd.Intn(3))
	for {
		found, cuts := w.m.open(oldest, turn)
		if len(found) > len(had) || !slices.EqualFunc(found, had[:len(found)], sameRecord) {
			w.t.Fatalf("found %+v; the log had %+v", found, had)
		}
		if len(found) < len(had) && had[len(found)].Lsn < safe {
			w.t.Fatalf("record %d was safe (ahead of %d) and is lost", had[len(found)].Lsn, safe)
		}
		n := w.rnd.Intn(6)
		w.d.Arm(n)
		l, e := log.Open(w.d, 1, w.m.count, oldest, turn)
		if !cuts || n == 0 || n > 2 {
			if e != api.OK {
				w.t.Fatalf("Open = %d", e)
			}
			w.d.Arm(0)
			w.l = l
			if cuts {
				at, b := w.m.cutOff()
				w.m.blocks[at] = b
				// It was synced.
				w.d.Wake(nil)
			}
			return
		}
		if e != api.ErrDown || l != nil {
			w.t.Fatalf("Open = %v, %d; a crash at %d", l, e, n)
		}
		at, b := w.m.cutOff()
		f := fates(w.rnd, len(w.m.blocks))
		w.d.Wake(f)
		w.m.wake([]writing{{at, b}}, f)
		turn += 1 + int64(w.rnd.Intn(3))
	}
}

func (w *walk) trim() {
	w.t.Helper()
	places := []int64{w.m.oldest, w.m.end, w.m.oldest - 1, w.m.end + 1, w.m.safe}
	for _, r := range w.m.from() {
		places = append(places, r.Lsn, r.Lsn+1)
	}
	lsn := places[w.rnd.Intn(len(places))]
	begins := lsn == w.m.end
	for _, r := range w.m.from() {
		begins = begins || r.Lsn == lsn
	}
	if !begins {
		wantNoTrim(w.t, w.l, lsn)
		return
	}
	wantTrim(w.t, w.l, lsn)
	w.m.oldest = lsn
}

// TestAsTheModel goes long ways of calls (the same ones each time), with crashes in Force and in Open.
func TestAsTheModel(t *testing.T) {
	for seed := range int64(200) {
		rnd := rand.New(rand.NewSource(seed))
		m := newModel(4 + rnd.Intn(3))
		w := &walk{t: t, rnd: rnd, d: m.device(t), m: m}
		oldest := []int64{1, 1, 1 + rnd.Int63n(5000), 1<<61 - rnd.Int63n(3000)}[rnd.Intn(4)]
		m.open(oldest, 1)
		w.l = opened(t, w.d, 1, m.count, oldest, 1)
		for range 150 {
			switch x := rnd.Intn(20); {
			case x < 12:
				r := anyRecord(rnd)
				lsn, e := w.l.Append(r)
				if want, err := m.append(r); lsn != want || e != err {
					t.Fatalf("seed %d: Append(%+v) = %d, %d; want %d, %d", seed, r, lsn, e, want, err)
				}
			case x < 16:
				w.force()
			case x < 18:
				w.trim()
			case x < 19 && m.oldest <= 1<<61:
				w.reopen()
			}
			m.wantSame(t, w.d, w.l)
			if t.Failed() {
				t.Fatalf("seed %d", seed)
			}
			if m.oldest > 1<<61-500 {
				break
			}
		}
	}
}

// P10.6: what a Force that goes on from the middle of a sector leaves behind, at each crash and with all fates of two blocks.
func TestEachFate(t *testing.T) {
	start := device.New(6)
	l := opened(t, start, 1, 4, 360, 1)
	wantAppend(t, l, commit(0, 0))
	wantForce(t, l, api.OK)
	safe := l.From(360)
	for n := 1; n <= 3; n++ {
		d := start.Copy()
		l := opened(t, d, 1, 4, 360, 2)
		for _, r := range []api.Record{change(0, 0, 3, 30), commit(0, 0), undo(0, 0, 3, 40), change(0, 0, 9, 60)} {
			wantAppend(t, l, r)
		}
		all := l.From(360)
		d.Arm(n)
		wantForce(t, l, api.ErrDown)
		for keep := range 1 << 16 {
			if n == 1 && keep > 255 {
				break
			}
			c := d.Copy()
			c.Wake([]api.Fate{{Block: 1, Keep: uint8(keep)}, {Block: 2, Keep: uint8(keep >> 8)}})
			got := opened(t, c, 1, 4, 360, 3).From(360)
			if len(got) < len(safe) || len(got) > len(all) || !slices.EqualFunc(got, all[:len(got)], sameRecord) {
				t.Fatalf("a crash at %d, fates %b: %+v", n, keep, got)
			}
			if n > 1 && keep == 1<<16-1 && len(got) < len(all) {
				t.Fatalf("all was kept, and just %d records are there", len(got))
			}
		}
	}
}

// P10.6: what one crash leaves behind is never put together with what another one leaves, whichever sectors these keep.
func TestEachFateOfTwoCrashes(t *testing.T) {
	start := device.New(4)
	l := opened(t, start, 0, 4, 1, 1)
	wantAppend(t, l, commit(0, 0))
	wantForce(t, l, api.OK)
	once := start.Copy()
	l = opened(t, once, 0, 4, 1, 2)
	for range 4 {
		wantAppend(t, l, change(0, 0, 3, 14)) // 71 bytes
	}
	once.Arm(2)
	wantForce(t, l, api.ErrDown)
	for first := range 128 {
		d := once.Copy()
		d.Wake([]api.Fate{{Block: 0, Keep: uint8(first)}})
		l := opened(t, d, 0, 4, 1, 3)
		safe := len(l.From(1))
		for range 4 {
			wantAppend(t, l, undo(0, 0, 3, 20)) // 71 bytes, too
		}
		all := l.From(1)
		d.Arm(len(blocksOf(l)) + 1)
		wantForce(t, l, api.ErrDown)
		for second := range 256 {
			c := d.Copy()
			c.Wake([]api.Fate{{Block: 0, Keep: uint8(second)}, {Block: 1, Keep: uint8(second)}})
			got := opened(t, c, 0, 4, 1, 4).From(1)
			if len(got) < safe || len(got) > len(all) || !slices.EqualFunc(got, all[:len(got)], sameRecord) {
				t.Fatalf("fates %b and %b: %+v", first, second, got)
			}
		}
	}
}

// blocksOf are those that have bytes between the safe place and the end.
func blocksOf(l *log.Log) []int64 {
	var out []int64
	for k := (l.Safe() - 1) / 408; k*408+1 < l.End(); k++ {
		out = append(out, k)
	}
	return out
}

// TestBentSectors takes logs whose sectors were bent by hand, and holds what Open finds, and what it writes, against the model.
func TestBentSectors(t *testing.T) {
	kinds := map[bool]int{}
	for seed := range int64(3000) {
		rnd := rand.New(rand.NewSource(seed))
		m := newModel(4 + rnd.Intn(2))
		m.layOut(rnd)
		for range rnd.Intn(4) {
			m.bend(rnd)
		}
		for range 6 {
			d := m.device(t)
			oldest := m.somePlace(rnd)
			turn := int64(1 + rnd.Intn(7))
			c := *m
			c.blocks = slices.Clone(m.blocks)
			_, cuts := c.open(oldest, turn)
			kinds[cuts]++
			l := opened(t, d, 1, c.count, oldest, turn)
			if cuts {
				at, b := c.cutOff()
				c.blocks[at] = b
			}
			d.Wake(nil)
			c.wantSame(t, d, l)
			if t.Failed() {
				t.Fatalf("seed %d", seed)
			}
		}
	}
	if kinds[true] < 1000 || kinds[false] < 1000 {
		t.Errorf("cut off or not: %v", kinds)
	}
}

// layOut writes records by several turns, and some bytes behind them, over most of the area.
func (m *model) layOut(rnd *rand.Rand) {
	m.open(1, 1)
	most := int64(300 + rnd.Intn(408*m.count-300))
	skip := rnd.Int63n(2000)
	m.oldest, m.safe, m.end = 1+skip, 1+skip, 1+skip
	for m.end < most+skip {
		if _, e := m.append(anyRecord(rnd)); e == api.ErrFull {
			m.oldest = m.end - 408
		}
		if rnd.Intn(6) == 0 {
			for _, w := range m.force() {
				m.blocks[w.block] = w.bytes
			}
			m.safe = m.end
			m.turn += int64(rnd.Intn(2))
		}
	}
	for _, w := range m.force() {
		m.blocks[w.block] = w.bytes
	}
}

func (m *model) somePlace(rnd *rand.Rand) int64 {
	if len(m.records) == 0 || rnd.Intn(8) == 0 {
		return 1 + rnd.Int63n(m.end)
	}
	return m.records[rnd.Intn(len(m.records))].Lsn
}

func (m *model) bend(rnd *rand.Rand) {
	place := m.oldest + rnd.Int63n(m.end-m.oldest+1)
	n := int((place - 1) / 51 % int64(8*m.count))
	b := bytes.Clone(m.blocks[1+n/8])
	s := b[n%8*64:][:64]
	switch rnd.Intn(7) {
	case 0:
		binary.BigEndian.PutUint64(s, binary.BigEndian.Uint64(s)+uint64([]int{1, -1, 51, -51, 51 * 8 * m.count, -51 * 8 * m.count}[rnd.Intn(6)]))
	case 1:
		binary.BigEndian.PutUint32(s[8:], uint32(rnd.Intn(8)))
	case 2:
		s[12] = byte(rnd.Intn(70))
	case 3:
		s[13+rnd.Intn(51)] ^= 1 << rnd.Intn(8)
	case 4:
		clear(s)
	case 5:
		rnd.Read(s)
	case 6:
		s[rnd.Intn(13)] ^= 1 << rnd.Intn(8)
	}
	m.blocks[1+n/8] = b
}
