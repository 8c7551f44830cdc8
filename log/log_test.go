package log_test

import (
	"bytes"
	"encoding/binary"
	"math"
	"slices"
	"testing"

	"parchment/api"
	"parchment/device"
	"parchment/log"
)

func opened(t *testing.T, d *device.Device, first, count int, oldest, turn int64) *log.Log {
	t.Helper()
	l, e := log.Open(d, first, count, oldest, turn)
	if e != api.OK || l == nil {
		t.Fatalf("Open(%d, %d, %d, %d) = %v, %d", first, count, oldest, turn, l, e)
	}
	return l
}

func wantNoOpen(t *testing.T, d *device.Device, first, count int, oldest, turn int64, want api.Errno) {
	t.Helper()
	if l, e := log.Open(d, first, count, oldest, turn); e != want || l != nil {
		t.Errorf("Open(%d, %d, %d, %d) = %v, %d; want %d", first, count, oldest, turn, l, e, want)
	}
}

func wantPlaces(t *testing.T, l *log.Log, oldest, safe, end int64) {
	t.Helper()
	if l.Oldest() != oldest || l.Safe() != safe || l.End() != end {
		t.Errorf("from %d, safe %d, end %d; want %d, %d, %d", l.Oldest(), l.Safe(), l.End(), oldest, safe, end)
	}
}

func wantAppend(t *testing.T, l *log.Log, r api.Record) {
	t.Helper()
	end, room := l.End(), l.Room()
	r.Lsn, r.Turn = 1, 1
	n := len(written(r))
	if lsn, e := l.Append(r); e != api.OK || lsn != end {
		t.Fatalf("Append(%+v) = %d, %d; want %d", r, lsn, e, end)
	}
	if l.End() != end+int64(n) || l.Room() != room-n {
		t.Fatalf("End %d, Room %d; want %d, %d", l.End(), l.Room(), end+int64(n), room-n)
	}
}

func wantNoAppend(t *testing.T, l *log.Log, r api.Record, want api.Errno) {
	t.Helper()
	oldest, safe, end, room, all := l.Oldest(), l.Safe(), l.End(), l.Room(), l.From(l.Oldest())
	if lsn, e := l.Append(r); e != want || lsn != 0 {
		t.Errorf("Append(%+v) = %d, %d; want %d", r, lsn, e, want)
	}
	wantPlaces(t, l, oldest, safe, end)
	wantRecords(t, l, all)
	if l.Room() != room {
		t.Errorf("Room %d, want %d", l.Room(), room)
	}
}

func wantForce(t *testing.T, l *log.Log, want api.Errno) {
	t.Helper()
	safe, end := l.Safe(), l.End()
	if want == api.OK {
		safe = end
	}
	if e := l.Force(); e != want {
		t.Fatalf("Force = %d, want %d", e, want)
	}
	wantPlaces(t, l, l.Oldest(), safe, end)
}

func wantTrim(t *testing.T, l *log.Log, lsn int64) {
	t.Helper()
	all, safe, end := l.From(lsn), l.Safe(), l.End()
	if e := l.Trim(lsn); e != api.OK {
		t.Fatalf("Trim(%d) = %d", lsn, e)
	}
	wantPlaces(t, l, lsn, safe, end)
	wantRecords(t, l, all)
}

func wantNoTrim(t *testing.T, l *log.Log, lsn int64) {
	t.Helper()
	oldest, safe, end, all := l.Oldest(), l.Safe(), l.End(), l.From(l.Oldest())
	if e := l.Trim(lsn); e != api.ErrArg {
		t.Errorf("Trim(%d) = %d", lsn, e)
	}
	wantPlaces(t, l, oldest, safe, end)
	wantRecords(t, l, all)
}

// wantRecords holds all that a log tells of its records against these.
func wantRecords(t *testing.T, l *log.Log, want []api.Record) {
	t.Helper()
	if got := l.From(l.Oldest()); !slices.EqualFunc(got, want, sameRecord) {
		t.Fatalf("the records are %+v; want %+v", got, want)
	}
	for i, r := range want {
		if got, e := l.Read(r.Lsn); e != api.OK || !sameRecord(got, r) {
			t.Fatalf("Read(%d) = %+v, %d; want %+v", r.Lsn, got, e, r)
		}
		if i%7 == 0 && !slices.EqualFunc(l.From(r.Lsn), want[i:], sameRecord) {
			t.Fatalf("From(%d) = %+v; want %+v", r.Lsn, l.From(r.Lsn), want[i:])
		}
	}
}

func wantNoRecord(t *testing.T, l *log.Log, lsn int64) {
	t.Helper()
	if r, e := l.Read(lsn); e != api.ErrNone || !sameRecord(r, api.Record{}) {
		t.Errorf("Read(%d) = %+v, %d", lsn, r, e)
	}
	if all := l.From(lsn); len(all) > 0 {
		t.Errorf("From(%d) = %+v", lsn, all)
	}
}

func block(t *testing.T, d *device.Device, n int) []byte {
	t.Helper()
	b, e := d.Read(n)
	if e != api.OK {
		t.Fatalf("Read(%d) = %d", n, e)
	}
	return b
}

func wantBlock(t *testing.T, d *device.Device, n int, want []byte) {
	t.Helper()
	if got := block(t, d, n); !bytes.Equal(got, want) {
		t.Fatalf("block %d is %v; want %v", n, got, want)
	}
}

// sector is one as the chapter has it: its stamp, its bytes, noughts.
func sector(place, turn int64, used []byte) []byte {
	out := binary.BigEndian.AppendUint64(nil, uint64(place))
	out = binary.BigEndian.AppendUint32(out, uint32(turn))
	out = append(append(out, byte(len(used))), used...)
	return append(out, make([]byte, 64-len(out))...)
}

// page is a block of sectors, noughts behind them.
func page(sectors ...[]byte) []byte {
	out := slices.Concat(sectors...)
	return append(out, make([]byte, 512-len(out))...)
}

func write(t *testing.T, d *device.Device, n int, b []byte) {
	t.Helper()
	if e := d.Write(n, b); e != api.OK {
		t.Fatalf("Write(%d) = %d", n, e)
	}
	d.Sync()
}

// The chapter's example.
func TestExample(t *testing.T) {
	one := api.Record{Lsn: 1, Turn: 1, Kind: api.RecCommit, Tx: 1}
	b, e := log.Put(one)
	if e != api.OK || len(b) != 35 || !bytes.Equal(b[:14], []byte{0, 0, 0, 0, 0, 0, 0, 1, 0, 0, 0, 1, 0, 17}) {
		t.Errorf("Put = %v, %d", b, e)
	}
	l := opened(t, device.New(4), 0, 4, 1, 1)
	if l.Room() != 1224 {
		t.Errorf("Room %d", l.Room())
	}
	if lsn, e := l.Append(one); e != api.OK || lsn != 1 {
		t.Errorf("Append = %d, %d", lsn, e)
	}
	wantPlaces(t, l, 1, 1, 36)
	wantForce(t, l, api.OK)
	wantPlaces(t, l, 1, 36, 36)
}

// P10.2.

func TestOpenRefuses(t *testing.T) {
	wantNoOpen(t, nil, 0, 4, 1, 1, api.ErrNil)
	wantNoOpen(t, &device.Device{}, 0, 4, 1, 1, api.ErrNil)
	wantNoOpen(t, nil, -1, 0, 0, 0, api.ErrNil)
	for _, down := range []bool{false, true} {
		d := device.New(8)
		if down {
			d.Arm(1)
			d.Sync()
		}
		for _, first := range []int{math.MinInt, -1, 5, 8, 9, math.MaxInt} {
			wantNoOpen(t, d, first, 4, 1, 1, api.ErrArg)
		}
		for _, count := range []int{math.MinInt, -8, -1, 0, 1, 3, 9, math.MaxInt} {
			wantNoOpen(t, d, 0, count, 1, 1, api.ErrArg)
		}
		wantNoOpen(t, d, 1, 8, 1, 1, api.ErrArg)
		wantNoOpen(t, d, 4, 5, 1, 1, api.ErrArg)
		wantNoOpen(t, d, math.MaxInt, math.MaxInt, 1, 1, api.ErrArg)
		wantNoOpen(t, d, math.MaxInt-3, 4, 1, 1, api.ErrArg)
		wantNoOpen(t, d, 4, math.MaxInt-3, 1, 1, api.ErrArg)
		for _, oldest := range []int64{math.MinInt64, -1, 0, 1<<61 + 1, 1 << 62, math.MaxInt64} {
			wantNoOpen(t, d, 0, 4, oldest, 1, api.ErrArg)
		}
		for _, turn := range []int64{math.MinInt64, -1, 0, 1 << 31, 1 << 32, 1<<32 + 1, math.MaxInt64} {
			wantNoOpen(t, d, 0, 4, 1, turn, api.ErrArg)
		}
	}
	wantNoOpen(t, device.New(3), 0, 4, 1, 1, api.ErrArg)
}

func TestOpenAtTheEdges(t *testing.T) {
	for _, c := range []struct{ blocks, first, count int }{{4, 0, 4}, {5, 1, 4}, {8, 0, 8}, {8, 4, 4}, {api.MaxBlocks, 0, api.MaxBlocks}, {api.MaxBlocks, api.MaxBlocks - 4, 4}} {
		for _, oldest := range []int64{1, 2, 51, 52, 408, 409, 1 << 32, 1<<61 - 1, 1 << 61} {
			for _, turn := range []int64{1, 2, 1<<31 - 1} {
				l := opened(t, device.New(c.blocks), c.first, c.count, oldest, turn)
				wantPlaces(t, l, oldest, oldest, oldest)
				wantRecords(t, l, nil)
				if l.Room() != 408*(c.count-1) {
					t.Errorf("Room %d of %d blocks", l.Room(), c.count)
				}
			}
		}
	}
}

func TestOpenOfADeviceThatIsDown(t *testing.T) {
	d := device.New(4)
	d.Arm(1)
	d.Sync()
	wantNoOpen(t, d, 0, 4, 1, 1, api.ErrDown)
	wantNoOpen(t, d, 0, 4, 1<<61, 9, api.ErrDown)
}

// A log of records of all kinds that is closed and opened again and again, each time by a greater turn.
func TestOpenFindsWhatIsSafe(t *testing.T) {
	d := device.New(12)
	var want []api.Record
	for turn := int64(1); turn < 8; turn++ {
		l := opened(t, d, 3, 8, 1, turn)
		wantRecords(t, l, want)
		wantPlaces(t, l, 1, l.End(), l.End())
		for i, r := range []api.Record{change(0, 0, 3, int(turn)), undo(0, 0, 9, 40), commit(0, 0), abort(0, 0)} {
			r.Tx = turn*10 + int64(i)
			r.Lsn, r.Turn = l.End(), turn
			want = append(want, r)
			wantAppend(t, l, r)
		}
		wantRecords(t, l, want)
		wantForce(t, l, api.OK)
		d.Wake(nil)
	}
	l := opened(t, d, 3, 8, 1, 8)
	wantRecords(t, l, want)
	// From any of them on, and from no other place.
	starts := map[int64]int{l.End(): len(want)}
	for i, r := range want {
		starts[r.Lsn] = i
	}
	for place := int64(1); place <= l.End(); place++ {
		i, ok := starts[place]
		part := opened(t, d.Copy(), 3, 8, place, 8)
		if !ok {
			wantRecords(t, part, nil)
			wantPlaces(t, part, place, place, place)
			continue
		}
		wantRecords(t, part, want[i:])
		wantPlaces(t, part, place, l.End(), l.End())
	}
	for _, other := range []int64{l.End() + 1, l.End() + 50, 1 + 51*64, want[1].Lsn + 51*64} {
		wantRecords(t, opened(t, d.Copy(), 3, 8, other, 8), nil)
	}
	wantRecords(t, opened(t, d.Copy(), 2, 8, 1, 8), nil)
}

// By a turn that is not above the others' just what was written ahead of it stands.
func TestOpenByALesserTurn(t *testing.T) {
	d := device.New(4)
	l := opened(t, d, 0, 4, 1, 5)
	wantAppend(t, l, commit(0, 0))
	wantForce(t, l, api.OK)
	for turn := int64(1); turn < 6; turn++ {
		wantRecords(t, opened(t, d.Copy(), 0, 4, 1, turn), nil)
	}
	wantRecords(t, opened(t, d.Copy(), 0, 4, 1, 6), []api.Record{commit(1, 5)})
	wantRecords(t, opened(t, d.Copy(), 0, 4, 1, 1<<31-1), []api.Record{commit(1, 5)})
}

// Stamps that were written by hand: which sectors' bytes stand.
func TestWhatStands(t *testing.T) {
	first, second := written(change(1, 2, 0, 4)), written(change(52, 2, 0, 4)) // 51 bytes each
	third := written(commit(103, 2))
	whole := []api.Record{change(1, 2, 0, 4), change(52, 2, 0, 4), commit(103, 2)}
	over := slices.Concat(sector(52, 2, second))
	over[12] = 52
	for i, c := range []struct {
		block []byte
		turn  int64
		n     int
	}{
		{page(sector(1, 2, first), sector(52, 2, second), sector(103, 2, third)), 3, 3},
		{page(sector(1, 2, first), sector(52, 2, second), sector(103, 2, third)), 2, 0},
		{page(sector(1, 2, first), sector(52, 2, second), sector(103, 3, third)), 4, 3},
		{page(sector(1, 2, first), sector(52, 3, second), sector(103, 3, third)), 4, 3},
		{page(sector(1, 2, first), sector(52, 2, second), sector(103, 3, third)), 3, 2}, // not below the log's own
		{page(sector(1, 2, first), sector(52, 3, second), sector(103, 2, third)), 4, 2}, // falls
		{page(sector(1, 3, first), sector(52, 2, second), sector(103, 3, third)), 4, 1}, // falls
		{page(sector(1, 0, first), sector(52, 2, second), sector(103, 2, third)), 3, 0}, // no turn
		{page(sector(1, 1, first), sector(52, 0, second), sector(103, 2, third)), 3, 1},
		{page(sector(1, 1, first), sector(52, 1, second), sector(103, 1, third)), 3, 3}, // the records' turns are their own
		{page(sector(1, 1<<31, first), sector(52, 1<<31, second)), 1<<31 - 1, 0},
		{page(sector(1, 1<<32-1, first), sector(52, 1<<32-1, second)), 1<<31 - 1, 0},
		{page(sector(1, 2, first), sector(53, 2, second), sector(103, 2, third)), 3, 1}, // another place
		{page(sector(1, 2, first), sector(51, 2, second), sector(103, 2, third)), 3, 1},
		{page(sector(1, 2, first), sector(52+51*32, 2, second), sector(103, 2, third)), 3, 1},
		{page(sector(0, 2, first), sector(52, 2, second), sector(103, 2, third)), 3, 0},
		{page(sector(1<<62+1, 2, first), sector(52, 2, second)), 3, 0},
		{page(sector(math.MinInt64+1, 2, first), sector(52, 2, second)), 3, 0},
		{page(make([]byte, 64), sector(52, 2, second), sector(103, 2, third)), 3, 0},
		{page(sector(1, 2, first), make([]byte, 64), sector(103, 2, third)), 3, 1},
		{page(sector(1, 2, first), over, sector(103, 2, third)), 3, 1},                       // more than 51 used
		{page(sector(1, 2, first), sector(52, 2, second[:50]), sector(103, 2, third)), 3, 1}, // it ends there
		{page(sector(1, 2, first), sector(52, 2, nil), sector(103, 2, third)), 3, 1},
		{page(sector(1, 2, nil), sector(52, 2, second), sector(103, 2, third)), 3, 0},
		{page(sector(1, 2, first), sector(52, 2, second), sector(103, 2, third[:34])), 3, 2},
		{page(sector(1, 2, first), sector(52, 2, second), sector(103, 2, append(slices.Clone(third), 1, 2, 3))), 3, 3},
	} {
		d := device.New(4)
		write(t, d, 0, c.block)
		l := opened(t, d, 0, 4, 1, c.turn)
		if n := len(l.From(1)); n != c.n {
			t.Errorf("case %d: %d records stand, want %d", i, n, c.n)
			continue
		}
		wantRecords(t, l, whole[:c.n])
	}
}

// In the sector of the oldest place as many bytes must be used as stand ahead of it, and these may be any.
func TestOldestWithinASector(t *testing.T) {
	d := device.New(4)
	r := written(commit(11, 1))
	write(t, d, 0, page(sector(1, 1, slices.Concat(bytes.Repeat([]byte{200}, 10), r))))
	wantRecords(t, opened(t, d, 0, 4, 11, 2), []api.Record{commit(11, 1)})
	for used := range 52 {
		d := device.New(4)
		b := page(sector(1, 1, make([]byte, used)), sector(52, 1, written(commit(52, 1))))
		write(t, d, 0, b)
		for place := int64(1); place <= 51; place++ {
			l := opened(t, d.Copy(), 0, 4, place, 2)
			wantPlaces(t, l, place, place, place)
			wantRecords(t, l, nil)
		}
		// A record that begins right behind it stands whatever is in the sector ahead.
		wantRecords(t, opened(t, d, 0, 4, 52, 2), []api.Record{commit(52, 1)})
		wantBlock(t, d, 0, b)
	}
	// A record of which the sector tells fewer bytes than are ahead of it.
	for used := range 45 {
		b := page(sector(1, 1, slices.Concat(make([]byte, 10), r)))
		b[12] = byte(used)
		d := device.New(4)
		write(t, d, 0, b)
		wantRecords(t, opened(t, d, 0, 4, 11, 2), nil)
	}
}

// Records that are none of the log's end it: another Lsn, a turn that falls or is too great, bytes that are no record.
func TestRecordsThatDoNotFollow(t *testing.T) {
	for i, c := range []struct {
		records []api.Record
		n       int
	}{
		{[]api.Record{commit(1, 3), commit(36, 4), commit(71, 5)}, 3},
		{[]api.Record{commit(1, 3), commit(36, 3), commit(71, 3)}, 3},
		{[]api.Record{commit(1, 3), commit(36, 4), commit(71, 3)}, 2},
		{[]api.Record{commit(1, 3), commit(36, 2), commit(71, 3)}, 1},
		{[]api.Record{commit(1, 3), commit(36, 6), commit(71, 6)}, 1},
		{[]api.Record{commit(1, 6), commit(36, 6), commit(71, 6)}, 0},
		{[]api.Record{commit(1, 7), commit(36, 3), commit(71, 3)}, 0},
		{[]api.Record{commit(2, 3), commit(36, 3), commit(71, 3)}, 0},
		{[]api.Record{commit(1, 3), commit(37, 3), commit(71, 3)}, 1},
		{[]api.Record{commit(1, 3), commit(1, 3), commit(71, 3)}, 1},
		{[]api.Record{commit(1, 3), commit(36, 3), commit(71+51*32, 3)}, 2},
		{[]api.Record{commit(1, 3), commit(36, 0), commit(71, 3)}, 1},
		{[]api.Record{commit(1, 3), bent(commit(36, 3), func(r *api.Record) { r.Tx = -1 }), commit(71, 3)}, 1},
	} {
		var b []byte
		for _, r := range c.records {
			b = append(b, written(r)...)
		}
		d := device.New(4)
		write(t, d, 0, page(sector(1, 5, b[:51]), sector(52, 5, b[51:102]), sector(103, 5, b[102:])))
		l := opened(t, d, 0, 4, 1, 6)
		if n := len(l.From(1)); n != c.n {
			t.Errorf("case %d: %d records, want %d", i, n, c.n)
		}
		wantPlaces(t, l, 1, int64(35*c.n+1), int64(35*c.n+1))
		wantRecords(t, l, c.records[:c.n])
	}
}

// What is left behind the end is cut off: one sector is written anew, and synced; if nothing is left, the device is not asked to write.
func TestOpenCutsOff(t *testing.T) {
	b := slices.Concat(written(commit(1, 1)), written(commit(36, 1)), written(change(71, 1, 0, 100)))
	var sectors [][]byte
	for at := 0; at < len(b); at += 51 {
		sectors = append(sectors, sector(int64(at+1), 1, b[at:min(at+51, len(b))]))
	}
	d := device.New(6)
	write(t, d, 1, page(sectors...))
	whole := d.Copy()
	whole.Arm(1)
	wantPlaces(t, opened(t, whole, 1, 4, 1, 2), 1, 314, 314)
	for lost := range len(sectors) {
		torn := slices.Clone(sectors) // what is behind the lost one stays where it is
		torn[lost] = make([]byte, 64)
		end := int64(1 + 35*min(2, lost*51/35))
		d := device.New(6)
		write(t, d, 1, page(torn...))
		was := d.Copy()
		was.Arm(1)
		if int64(lost*51+1) == end {
			wantPlaces(t, opened(t, was, 1, 4, 1, 2), 1, end, end)
			continue
		}
		wantNoOpen(t, was, 1, 4, 1, 2, api.ErrDown)
		was = d.Copy()
		was.Arm(2)
		wantNoOpen(t, was, 1, 4, 1, 2, api.ErrDown)
		d.Arm(3)
		wantPlaces(t, opened(t, d, 1, 4, 1, 2), 1, end, end)
		d.Wake(nil) // what was written was synced
		k := (end - 1) / 51
		torn[k] = sector(k*51+1, 2, b[k*51:end-1])
		wantBlock(t, d, 1, page(torn...))
		for _, n := range []int{0, 2, 3, 4, 5} {
			wantBlock(t, d, n, make([]byte, 512))
		}
	}
}

// The end is where a sector begins, and bytes stand in it: none of them is used then.
func TestOpenCutsOffAWholeSector(t *testing.T) {
	for at := range 8 {
		d := device.New(4)
		var sectors [][]byte
		for i := range at {
			sectors = append(sectors, sector(int64(i*51+1), 1, written(change(int64(i*51+1), 1, 0, 4))))
		}
		rest := sector(int64(at*51+1), 1, []byte{1, 2, 3})
		write(t, d, 0, page(append(slices.Clone(sectors), rest)...))
		end := int64(at*51 + 1)
		l := opened(t, d, 0, 4, 1, 7)
		wantPlaces(t, l, 1, end, end)
		wantBlock(t, d, 0, page(append(sectors, sector(end, 7, nil))...))
	}
}

// full is a device of four blocks whose every byte is the log's, and the records that it says: changes of 51 bytes.
func full(t *testing.T) (*device.Device, []api.Record) {
	t.Helper()
	d := device.New(4)
	var all []api.Record
	for n := range 4 {
		var sectors [][]byte
		for s := range 8 {
			r := change(int64(n*408+s*51+1), 1, 7, 4)
			all = append(all, r)
			sectors = append(sectors, sector(r.Lsn, 1, written(r)))
		}
		write(t, d, n, page(sectors...))
	}
	return d, all
}

// An area may be full of records; a log takes no more than it has room for.
func TestOpenTakesNoMoreThanItsRoom(t *testing.T) {
	d, all := full(t)
	for from := range 32 {
		c := d.Copy()
		l := opened(t, c, 0, 4, all[from].Lsn, 2)
		wantRecords(t, l, all[from:min(from+24, 32)])
		if from < 8 && l.Room() != 0 {
			t.Errorf("Room %d", l.Room())
		}
		if from+24 < 32 {
			b := block(t, d, (from+24)/8)
			copy(b[(from+24)%8*64:], sector(all[from+24].Lsn, 2, nil))
			wantBlock(t, c, (from+24)/8, b)
		}
	}
	// One of 52 bytes instead of the last but one: the last one it would have room for goes beyond.
	over := written(undo(23*51+1, 1, 0, 1)) // 52 bytes
	b := block(t, d, 2)
	copy(b[7*64:], sector(23*51+1, 1, over[:51]))
	write(t, d, 2, b)
	b = block(t, d, 3)
	copy(b, sector(24*51+1, 1, over[51:]))
	write(t, d, 3, b)
	l := opened(t, d, 0, 4, 1, 2)
	wantRecords(t, l, all[:23])
	if l.Room() != 51 {
		t.Errorf("Room %d", l.Room())
	}
}

// P10.3.

func TestAppendRefuses(t *testing.T) {
	l := opened(t, device.New(4), 0, 4, 1, 1)
	wantNoAppend(t, l, api.Record{}, api.ErrShape)
	wantNoAppend(t, l, api.Record{Lsn: 1, Turn: 1}, api.ErrShape)
	for _, r := range wrongNumbers() {
		if r.Lsn == 5 && r.Turn == 5 {
			wantNoAppend(t, l, r, api.ErrShape)
		}
	}
	wantAppend(t, l, change(0, 0, 0, 500))
	wantNoAppend(t, l, change(0, 0, 0, 200), api.ErrFull)
	wantNoAppend(t, l, bent(change(0, 0, 0, 500), func(r *api.Record) { r.Next = 1 }), api.ErrShape)
	wantNoAppend(t, l, undo(0, 0, 513, 300), api.ErrShape)
}

// A record's own Lsn and Turn mean nothing.
func TestAppendSetsPlaceAndTurn(t *testing.T) {
	l := opened(t, device.New(4), 0, 4, 1000, 77)
	var want []api.Record
	for _, n := range []int64{0, 1, -1, math.MinInt64, math.MaxInt64, 1 << 62, 77, 1000} {
		want = append(want, commit(l.End(), 77))
		wantAppend(t, l, commit(n, n))
	}
	wantRecords(t, l, want)
}

func TestRoomToTheLastByte(t *testing.T) {
	for _, count := range []int{4, 5, 9} {
		d := device.New(10)
		l := opened(t, d, 1, count, 30, 1)
		room := 408 * (count - 1)
		for l.Room() > 1067+35 {
			wantAppend(t, l, change(0, 0, 0, 512))
		}
		// Undo records have 51 bytes and those of their New.
		for n := range 513 {
			if n > 0 && n+51 > l.Room() {
				wantNoAppend(t, l, undo(0, 0, 0, n), api.ErrFull)
			}
		}
		for l.Room() > 200 {
			wantAppend(t, l, undo(0, 0, 0, 20))
		}
		wantNoAppend(t, l, undo(0, 0, 0, l.Room()-50), api.ErrFull)
		wantAppend(t, l, undo(0, 0, 0, l.Room()-51))
		if l.Room() != 0 || l.End() != int64(30+room) {
			t.Errorf("Room %d, End %d", l.Room(), l.End())
		}
		wantNoAppend(t, l, commit(0, 0), api.ErrFull)
		wantNoAppend(t, l, api.Record{}, api.ErrShape)
		all := l.From(30)
		wantForce(t, l, api.OK)
		wantNoAppend(t, l, commit(0, 0), api.ErrFull)
		again := opened(t, d, 1, count, 30, 2)
		wantRecords(t, again, all)
		wantNoAppend(t, again, commit(0, 0), api.ErrFull)
		wantTrim(t, again, all[1].Lsn)
		if again.Room() != int(all[1].Lsn-30) {
			t.Errorf("Room %d, want %d", again.Room(), all[1].Lsn-30)
		}
		wantAppend(t, again, commit(0, 0))
	}
}

// P10.4.

func TestForceWritesSectors(t *testing.T) {
	d := device.New(6)
	other := bytes.Repeat([]byte{5}, 512)
	write(t, d, 0, other)
	write(t, d, 5, other)
	for n := 1; n < 5; n++ {
		write(t, d, n, other) // what was there ahead of the log
	}
	l := opened(t, d, 1, 4, 1, 3)
	a, b, c := commit(1, 3), undo(36, 3, 5, 30), change(117, 3, 1, 200)
	all := slices.Concat(written(a), written(b), written(c))
	wantAppend(t, l, a)
	wantForce(t, l, api.OK)
	wantBlock(t, d, 1, page(sector(1, 3, all[:35])))
	wantAppend(t, l, b)
	wantForce(t, l, api.OK)
	wantBlock(t, d, 1, page(sector(1, 3, all[:51]), sector(52, 3, all[51:102]), sector(103, 3, all[102:116])))
	wantBlock(t, d, 2, other)
	// The next one is of another turn: sectors ahead of its own stay as they are.
	d.Wake(nil)
	l = opened(t, d, 1, 4, 1, 9)
	c.Turn = 9
	all = append(all[:116], written(c)...)
	wantAppend(t, l, c)
	wantForce(t, l, api.OK)
	d.Wake(nil) // it was synced
	sectors := [][]byte{sector(1, 3, all[:51]), sector(52, 3, all[51:102])}
	for at := 102; at < len(all); at += 51 {
		sectors = append(sectors, sector(int64(at+1), 9, all[at:min(at+51, len(all))]))
	}
	wantBlock(t, d, 1, page(sectors[:8]...))
	wantBlock(t, d, 2, page(sectors[8:]...))
	wantBlock(t, d, 3, other)
	wantBlock(t, d, 4, other)
	wantBlock(t, d, 0, other)
	wantBlock(t, d, 5, other)
}

// The end is where a sector begins: in a block that is written it is stamped, with none of its bytes used; where a block begins, that block stays as it is.
func TestForceUpToASector(t *testing.T) {
	d := device.New(4)
	other := bytes.Repeat([]byte{5}, 512)
	write(t, d, 1, other)
	l := opened(t, d, 0, 4, 1, 1)
	var sectors [][]byte
	for i := range 8 {
		r := change(int64(i*51+1), 1, 7, 4)
		sectors = append(sectors, sector(r.Lsn, 1, written(r)))
		wantAppend(t, l, r)
		wantForce(t, l, api.OK)
		want := slices.Clone(sectors)
		if i < 7 {
			want = append(want, sector(r.Lsn+51, 1, nil))
		}
		wantBlock(t, d, 0, page(want...))
		wantBlock(t, d, 1, other)
	}
	wantAppend(t, l, change(0, 0, 7, 4))
	wantForce(t, l, api.OK)
	wantBlock(t, d, 0, page(sectors...))
	wantBlock(t, d, 1, page(sector(409, 1, written(change(409, 1, 7, 4))), sector(460, 1, nil)))
}

// Round the area: behind its last block comes its first one.
func TestForceGoesRound(t *testing.T) {
	d := device.New(7)
	first, count := 2, 4
	l := opened(t, d, first, count, 1, 1)
	for range 100 {
		wantAppend(t, l, change(0, 0, 7, 4))
		wantForce(t, l, api.OK)
		if l.Room() < 200 {
			wantTrim(t, l, l.End()-102)
		}
	}
	// 5100 bytes: three times round and 204 bytes more.
	for s := range 32 {
		place := int64(4896 + s*51 + 1)
		want := sector(place, 1, nil)
		switch {
		case s < 4:
			want = sector(place, 1, written(change(place, 1, 7, 4)))
		case s == 4:
		case s < 8:
			want = make([]byte, 64)
		default:
			place -= 1632
			want = sector(place, 1, written(change(place, 1, 7, 4)))
		}
		if got := block(t, d, first+s/8)[s%8*64:][:64]; !bytes.Equal(got, want) {
			t.Errorf("sector %d is %v; want %v", s, got, want)
		}
	}
	again := opened(t, d, first, count, l.Oldest(), 2)
	wantRecords(t, again, l.From(l.Oldest()))
	for _, n := range []int{0, 1, 6} {
		wantBlock(t, d, n, make([]byte, 512))
	}
}

// Blocks are written in order round the area, then the device is synced: a crash at each of these leaves just those ahead of it, and the one at which it crashes.
func TestForceInOrder(t *testing.T) {
	keep := []api.Fate{{Block: 1, Keep: 255}, {Block: 2, Keep: 255}, {Block: 3, Keep: 255}, {Block: 4, Keep: 255}}
	for first := range 4 {
		for n := 1; n <= 5; n++ {
			d := device.New(5)
			l := opened(t, d, 1, 4, int64(1+408*first+100), 1)
			wantAppend(t, l, change(0, 0, 0, 512)) // from the 101st byte of a block on, to the last but 57 of the third one
			d.Arm(n)
			if n <= 4 {
				wantForce(t, l, api.ErrDown)
			} else {
				wantForce(t, l, api.OK)
			}
			d.Wake(keep)
			for k := range 4 {
				at := 1 + (first+k)%4
				if written := !bytes.Equal(block(t, d, at), make([]byte, 512)); written != (k < min(n, 3)) {
					t.Errorf("from block %d on, crash at %d: block %d is written: %v", 1+first, n, at, written)
				}
			}
		}
	}
}

// If all is safe, the device is not asked.
func TestForceOfNothing(t *testing.T) {
	d := device.New(4)
	l := opened(t, d, 0, 4, 1, 1)
	d.Arm(1)
	wantForce(t, l, api.OK)
	wantAppend(t, l, commit(0, 0))
	d.Arm(3)
	wantForce(t, l, api.OK)
	wantForce(t, l, api.OK)
	if d.Sync() != api.ErrDown {
		t.Error("Force of nothing was counted")
	}
	wantForce(t, l, api.OK)
	wantAppend(t, l, commit(0, 0))
	wantForce(t, l, api.ErrDown)
	wantForce(t, l, api.ErrDown)
	wantRecords(t, l, []api.Record{commit(1, 1), commit(36, 1)})
	d.Wake(nil)
	wantForce(t, l, api.OK)
	wantRecords(t, opened(t, d, 0, 4, 1, 2), []api.Record{commit(1, 1), commit(36, 1)})
}

func TestTrim(t *testing.T) {
	d := device.New(4)
	l := opened(t, d, 0, 4, 10, 1)
	wantTrim(t, l, 10)
	for _, lsn := range []int64{math.MinInt64, -1, 0, 1, 9, 11, 45, math.MaxInt64} {
		wantNoTrim(t, l, lsn)
	}
	for range 5 {
		wantAppend(t, l, commit(0, 0))
	}
	for lsn := int64(-1); lsn < 200; lsn++ {
		if lsn < 10 || lsn > 185 || (lsn-10)%35 != 0 {
			wantNoTrim(t, l, lsn)
			wantNoRecord(t, l, lsn)
		}
	}
	wantTrim(t, l, 10)
	wantTrim(t, l, 80)
	for _, lsn := range []int64{1, 10, 45, 79, 81} {
		wantNoTrim(t, l, lsn)
		wantNoRecord(t, l, lsn)
	}
	wantTrim(t, l, 80)
	wantPlaces(t, l, 80, 10, 185)
	wantForce(t, l, api.OK)
	wantTrim(t, l, 115)
	wantTrim(t, l, 185)
	wantNoRecord(t, l, 185)
	wantNoRecord(t, l, 150)
	wantNoTrim(t, l, 150)
	wantPlaces(t, l, 185, 185, 185)
	if l.Room() != 1224 {
		t.Errorf("Room %d", l.Room())
	}
	wantAppend(t, l, abort(0, 0))
	wantRecords(t, l, []api.Record{abort(185, 1)})
	// Trim writes nothing: whoever opens the log must know the oldest place.
	wantRecords(t, opened(t, d, 0, 4, 80, 2), []api.Record{commit(80, 1), commit(115, 1), commit(150, 1)})
}

// What is trimmed and not safe yet is written all the same, round the area and on, if there is so much.
func TestTrimAheadOfForce(t *testing.T) {
	for more := range 6 {
		for n := 0; n < 20; n++ {
			d := device.New(4)
			l := opened(t, d, 0, 4, 1, 1)
			for range more {
				for range 24 {
					wantAppend(t, l, change(0, 0, 7, 4))
				}
				wantTrim(t, l, l.End())
				wantPlaces(t, l, l.End(), 1, l.End())
			}
			wantAppend(t, l, commit(0, 0))
			wantAppend(t, l, change(0, 0, 7, 4))
			all := l.From(l.Oldest())
			d.Arm(n)
			// Three blocks for each 24 of the changes, and one more.
			if n > 0 && n <= 3*more+2 {
				wantForce(t, l, api.ErrDown)
				d.Wake(nil)
				wantRecords(t, opened(t, d, 0, 4, l.Oldest(), 2), nil)
				continue
			}
			wantForce(t, l, api.OK)
			wantRecords(t, l, all)
			wantRecords(t, opened(t, d, 0, 4, l.Oldest(), 2), all)
		}
	}
}

// P10.5.

// What a log has it tells without the device.
func TestReadOfADeviceThatIsDown(t *testing.T) {
	d := device.New(4)
	l := opened(t, d, 0, 4, 1, 1)
	wantAppend(t, l, commit(0, 0))
	wantForce(t, l, api.OK)
	l = opened(t, d, 0, 4, 1, 2)
	d.Arm(1)
	d.Sync()
	wantAppend(t, l, undo(0, 0, 3, 4))
	wantRecords(t, l, []api.Record{commit(1, 1), undo(36, 2, 3, 4)})
	wantPlaces(t, l, 1, 36, 91)
	if l.Room() != 1224-90 {
		t.Errorf("Room %d", l.Room())
	}
	wantTrim(t, l, 36)
	wantRecords(t, l, []api.Record{undo(36, 2, 3, 4)})
	wantNoRecord(t, l, 1)
}

func TestNoSuchRecord(t *testing.T) {
	l := opened(t, device.New(4), 0, 4, 5, 1)
	for _, lsn := range []int64{math.MinInt64, -1, 0, 1, 5, 6, math.MaxInt64} {
		wantNoRecord(t, l, lsn)
	}
	wantAppend(t, l, commit(0, 0))
	wantAppend(t, l, undo(0, 0, 0, 512))
	for lsn := int64(-10); lsn < 700; lsn++ {
		if lsn != 5 && lsn != 40 {
			wantNoRecord(t, l, lsn)
		}
	}
	for _, lsn := range []int64{math.MinInt64, math.MaxInt64, 1 << 62, 5 + 1632, 5 - 1632} {
		wantNoRecord(t, l, lsn)
	}
}

// R5.
func TestNoLog(t *testing.T) {
	for _, l := range []*log.Log{nil, {}, new(log.Log)} {
		if lsn, e := l.Append(commit(1, 1)); e != api.ErrNil || lsn != 0 {
			t.Errorf("Append = %d, %d", lsn, e)
		}
		if lsn, e := l.Append(api.Record{}); e != api.ErrNil || lsn != 0 {
			t.Errorf("Append = %d, %d", lsn, e)
		}
		for _, lsn := range []int64{-1, 0, 1} {
			if e := l.Trim(lsn); e != api.ErrNil {
				t.Errorf("Trim = %d", e)
			}
			if r, e := l.Read(lsn); e != api.ErrNil || !sameRecord(r, api.Record{}) {
				t.Errorf("Read = %+v, %d", r, e)
			}
			if all := l.From(lsn); len(all) > 0 {
				t.Errorf("From = %+v", all)
			}
		}
		if e := l.Force(); e != api.ErrNil {
			t.Errorf("Force = %d", e)
		}
		if l.Oldest() != 0 || l.End() != 0 || l.Safe() != 0 || l.Room() != 0 {
			t.Errorf("%d, %d, %d, %d", l.Oldest(), l.End(), l.Safe(), l.Room())
		}
	}
}

// R3: a log keeps nothing that it was handed but the device, and hands out nothing that it keeps.
func TestLogsShareNothing(t *testing.T) {
	d := device.New(8)
	l, other := opened(t, d, 0, 4, 1, 1), opened(t, d, 4, 4, 1, 1)
	want := []api.Record{change(1, 1, 3, 60), undo(164, 1, 3, 60)}
	for _, r := range want {
		r.Span.Old, r.Span.New = roomy(r.Span.Old), roomy(r.Span.New)
		old, new := roomy(r.Span.Old), roomy(r.Span.New)
		wantAppend(t, l, r)
		wantAppend(t, other, r)
		if !bytes.Equal(r.Span.Old[:cap(r.Span.Old)], old[:cap(old)]) || !bytes.Equal(r.Span.New[:cap(r.Span.New)], new[:cap(new)]) {
			t.Error("Append changed what it was handed")
		}
		scribble(r.Span.Old)
		scribble(r.Span.New)
	}
	for range 2 {
		wantRecords(t, l, want)
		wantRecords(t, other, want)
		one, _ := l.Read(1)
		scribble(one.Span.Old)
		scribble(one.Span.New)
		all := l.From(1)
		for i := range all {
			scribble(all[i].Span.Old)
			if !bytes.Equal(all[i].Span.New, want[i].Span.New) {
				t.Error("the rows of one answer share memory")
			}
			scribble(all[i].Span.New)
		}
		all = append(all[:1], api.Record{})
		scribble(all[:1][0].Span.New)
		wantRecords(t, l, want)
		wantForce(t, l, api.OK)
	}
	wantRecords(t, opened(t, d, 0, 4, 1, 2), want)
	wantTrim(t, l, 164)
	wantRecords(t, l, want[1:])
	wantRecords(t, other, want)
}
