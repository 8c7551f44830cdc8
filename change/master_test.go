package change_test

import (
	"bytes"
	"encoding/binary"
	"hash/crc32"
	"math"
	"testing"

	"parchment/api"
	"parchment/change"
	"parchment/device"
)

// laid is a master's block, by the chapter's words.
func laid(m change.Master) []byte {
	out := []byte{80, 77, 48, 49}
	for _, n := range []int64{m.Seq, m.Turn, m.Oldest} {
		out = binary.BigEndian.AppendUint64(out, uint64(n)+1<<63)
	}
	out = binary.BigEndian.AppendUint32(out, crc32.ChecksumIEEE(out))
	return append(out, make([]byte, api.BlockSize-len(out))...)
}

// of is a block, or a page, of one byte.
func of(x byte) []byte {
	return bytes.Repeat([]byte{x}, api.BlockSize)
}

// used is a device whose blocks all have bytes, some of them safe.
func used(t *testing.T, blocks int) *device.Device {
	t.Helper()
	d := device.New(blocks)
	for i := range blocks {
		d.Write(i, of(200))
	}
	d.Sync()
	for i := 0; i < blocks; i += 3 {
		d.Write(i, of(201))
	}
	return d
}

// all is the fates that keep what was written last.
func all(d *device.Device) []api.Fate {
	var out []api.Fate
	for i := range d.Blocks() {
		out = append(out, api.Fate{Block: i, Keep: 255})
	}
	return out
}

// woken is a copy of a device behind a crash.
func woken(d *device.Device, fates []api.Fate) *device.Device {
	twin := d.Copy()
	twin.Wake(fates)
	return twin
}

// latest is a block's bytes as they were written last, if that crashed, too; safe is what a crash is sure to leave.
func latest(d *device.Device, block int) []byte {
	b, _ := woken(d, all(d)).Read(block)
	return b
}

func safe(d *device.Device, block int) []byte {
	b, _ := woken(d, nil).Read(block)
	return b
}

// same is whether two devices have the same blocks, latest and safe.
func same(a, b *device.Device) bool {
	if a.Blocks() != b.Blocks() || a.Down() != b.Down() {
		return false
	}
	for i := range a.Blocks() {
		if !bytes.Equal(latest(a, i), latest(b, i)) || !bytes.Equal(safe(a, i), safe(b, i)) {
			return false
		}
	}
	return true
}

// crash lets a device be down.
func crash(d *device.Device) {
	d.Arm(1)
	d.Sync()
}

func wantRead(t *testing.T, d *device.Device, want change.Master) {
	t.Helper()
	if m, e := change.Read(d); m != want || e != api.OK {
		t.Errorf("Read = %v, %d; want %v", m, e, want)
	}
}

func wantNoRead(t *testing.T, d *device.Device, want api.Errno) {
	t.Helper()
	if m, e := change.Read(d); m != (change.Master{}) || e != want {
		t.Errorf("Read = %v, %d; want %d", m, e, want)
	}
}

func wantWrite(t *testing.T, d *device.Device, m change.Master, want api.Errno) {
	t.Helper()
	if e := change.Write(d, m); e != want {
		t.Errorf("Write(%v) = %d; want %d", m, e, want)
	}
}

// P12.1.

func TestPlace(t *testing.T) {
	for blocks := -30; blocks < api.MaxBlocks+30; blocks++ {
		var want [4]int
		if blocks >= 24 && blocks <= 65536 {
			want = [4]int{2, blocks - 2 - blocks/2, blocks - blocks/2, blocks / 2}
		}
		first, pages, log, count := change.Place(blocks)
		if got := [4]int{first, pages, log, count}; got != want {
			t.Fatalf("Place(%d) = %v; want %v", blocks, got, want)
		}
	}
	for _, blocks := range []int{math.MinInt, math.MaxInt, 1 << 32} {
		if first, pages, log, count := change.Place(blocks); first != 0 || pages != 0 || log != 0 || count != 0 {
			t.Errorf("Place(%d) = %d, %d, %d, %d", blocks, first, pages, log, count)
		}
	}
}

// The chapter's own, in numbers.
func TestPlaceOfTheLeast(t *testing.T) {
	if first, pages, log, count := change.Place(24); first != 2 || pages != 10 || log != 12 || count != 12 {
		t.Errorf("Place(24) = %d, %d, %d, %d", first, pages, log, count)
	}
	if first, pages, log, count := change.Place(25); first != 2 || pages != 11 || log != 13 || count != 12 {
		t.Errorf("Place(25) = %d, %d, %d, %d", first, pages, log, count)
	}
}

func TestFormat(t *testing.T) {
	for _, blocks := range []int{24, 25, 100, api.MaxBlocks} {
		d := used(t, blocks)
		if e := change.Format(d); e != api.OK {
			t.Fatal(e)
		}
		wantRead(t, d, change.Master{Seq: 1, Turn: 1, Oldest: 1})
		d.Wake(nil)
		for i := range blocks {
			want := of(0)
			if i == 1 {
				want = laid(change.Master{Seq: 1, Turn: 1, Oldest: 1})
			}
			if b, _ := d.Read(i); !bytes.Equal(b, want) {
				t.Fatalf("block %d of %d is %v", i, blocks, b)
			}
		}
	}
}

// The noughts are safe ahead of the master's being written.
func TestFormatThatCrashes(t *testing.T) {
	for n := 1; n <= 28; n++ {
		d := used(t, 24)
		d.Arm(n)
		want := api.ErrDown
		if n == 28 { // 24 blocks, a sync, the master, a sync
			want = api.OK
		}
		if e := change.Format(d); e != want || d.Down() != (n < 28) {
			t.Fatalf("crash at %d: %d", n, e)
		}
		for i := range 24 {
			b := safe(d, i)
			master := i == 1 && n == 28
			if n <= 25 && b[0] == 0 || n > 25 && !master && !bytes.Equal(b, of(0)) {
				t.Errorf("crash at %d: block %d is %v", n, i, b)
			}
		}
		if began := n >= 26; bytes.Equal(latest(d, 1), laid(change.Master{Seq: 1, Turn: 1, Oldest: 1})) != began {
			t.Errorf("crash at %d: block 1 is %v", n, latest(d, 1))
		}
	}
}

func TestFormatRefuses(t *testing.T) {
	for _, d := range []*device.Device{nil, {}, device.New(0), device.New(api.MaxBlocks + 1)} {
		if e := change.Format(d); e != api.ErrNil {
			t.Errorf("Format = %d", e)
		}
	}
	for _, blocks := range []int{1, 2, 3, 22, 23} {
		for _, down := range []bool{false, true} {
			d := used(t, blocks)
			d.Arm(4)
			if down {
				crash(d)
			}
			was := d.Copy()
			if e := change.Format(d); e != api.ErrArg {
				t.Errorf("Format of %d blocks = %d", blocks, e)
			}
			if !same(d, was) {
				t.Errorf("Format of %d blocks has written", blocks)
			}
		}
	}
	d := used(t, 24)
	crash(d)
	if e := change.Format(d); e != api.ErrDown {
		t.Errorf("Format = %d", e)
	}
}

// P12.2.

// might are masters that may be, at all their edges.
func might() []change.Master {
	var out []change.Master
	for _, seq := range []int64{1, 2, 3, 255, 256, 1 << 61, 1<<61 + 1, math.MaxInt64 - 1, math.MaxInt64} {
		for _, turn := range []int64{1, 2, 1<<31 - 3, 1<<31 - 2} {
			for _, oldest := range []int64{1, 2, 1 << 40, 1<<61 - 1, 1 << 61} {
				out = append(out, change.Master{Seq: seq, Turn: turn, Oldest: oldest})
			}
		}
	}
	return out
}

// mightNot are masters of which one number, or more, may not be.
func mightNot() []change.Master {
	out := []change.Master{{}}
	for _, n := range []int64{0, -1, math.MinInt64} {
		out = append(out, change.Master{Seq: n, Turn: 1, Oldest: 1})
		out = append(out, change.Master{Seq: 1, Turn: n, Oldest: 1})
		out = append(out, change.Master{Seq: 1, Turn: 1, Oldest: n})
	}
	for _, n := range []int64{1<<31 - 1, 1 << 31, 1 << 32, math.MaxInt64} {
		out = append(out, change.Master{Seq: 1, Turn: n, Oldest: 1})
	}
	for _, n := range []int64{1<<61 + 1, 1 << 62, math.MaxInt64} {
		out = append(out, change.Master{Seq: 1, Turn: 1, Oldest: n})
	}
	return out
}

func TestWriteAndRead(t *testing.T) {
	for _, m := range might() {
		for _, blocks := range []int{24, 31} {
			d := used(t, blocks)
			was := d.Copy()
			wantWrite(t, d, m, api.OK)
			wantRead(t, d, m)
			for i := range blocks {
				want := latest(was, i)
				if i == int(m.Seq%2) {
					want = laid(m)
				}
				if !bytes.Equal(safe(d, i), want) {
					t.Fatalf("%v: block %d is %v", m, i, safe(d, i))
				}
			}
		}
	}
}

// The bytes, number by number.
func TestMasterBytes(t *testing.T) {
	d := device.New(24)
	wantWrite(t, d, change.Master{Seq: 258, Turn: 3, Oldest: 1<<61 - 1}, api.OK)
	b, _ := d.Read(0)
	want := []byte{80, 77, 48, 49, 128, 0, 0, 0, 0, 0, 1, 2, 128, 0, 0, 0, 0, 0, 0, 3, 159, 255, 255, 255, 255, 255, 255, 255}
	if !bytes.Equal(b[:28], want) || binary.BigEndian.Uint32(b[28:]) != crc32.ChecksumIEEE(want) || !bytes.Equal(b[32:], make([]byte, 480)) {
		t.Errorf("the block is %v", b)
	}
}

func TestWriteRefuses(t *testing.T) {
	one := change.Master{Seq: 1, Turn: 1, Oldest: 1}
	for _, d := range []*device.Device{nil, {}} {
		wantWrite(t, d, one, api.ErrNil)
		wantWrite(t, d, change.Master{}, api.ErrNil)
	}
	for _, down := range []bool{false, true} {
		for _, m := range mightNot() {
			d := used(t, 24)
			if down {
				crash(d)
			}
			was := d.Copy()
			wantWrite(t, d, m, api.ErrArg)
			if !same(d, was) {
				t.Errorf("Write(%v) has written", m)
			}
		}
		for _, blocks := range []int{1, 2, 23} {
			d := used(t, blocks)
			if down {
				crash(d)
			}
			was := d.Copy()
			wantWrite(t, d, one, api.ErrArg)
			if !same(d, was) {
				t.Errorf("Write to %d blocks has written", blocks)
			}
		}
	}
	d := device.New(24)
	crash(d)
	wantWrite(t, d, one, api.ErrDown)
	if !bytes.Equal(latest(d, 1), of(0)) {
		t.Error("a device that is down was written")
	}
}

// A master that is being written is the device's, or the one ahead of it still is.
func TestWriteThatCrashes(t *testing.T) {
	was, is := change.Master{Seq: 7, Turn: 3, Oldest: 5}, change.Master{Seq: 8, Turn: 4, Oldest: 900}
	for n := 1; n <= 3; n++ {
		d := device.New(24)
		wantWrite(t, d, change.Master{Seq: 6, Turn: 2, Oldest: 4}, api.OK)
		wantWrite(t, d, was, api.OK)
		d.Arm(n)
		if n == 3 {
			wantWrite(t, d, is, api.OK)
			wantRead(t, woken(d, nil), is)
			continue
		}
		wantWrite(t, d, is, api.ErrDown)
		wantNoRead(t, d, api.ErrDown)
		for keep := range 256 {
			want := was
			if keep%2 == 1 { // the first sector stays, which has all but noughts
				want = is
			}
			wantRead(t, woken(d, []api.Fate{{Block: 0, Keep: uint8(keep)}, {Block: 1, Keep: 255}}), want)
		}
	}
}

func TestReadRefuses(t *testing.T) {
	for _, d := range []*device.Device{nil, {}} {
		wantNoRead(t, d, api.ErrNil)
	}
	for _, blocks := range []int{2, 24, 100} {
		wantNoRead(t, device.New(blocks), api.ErrShape)
		wantNoRead(t, used(t, blocks), api.ErrShape)
	}
	wantNoRead(t, device.New(1), api.ErrNone) // it has no block 1 that could be read
	d := device.New(24)
	wantWrite(t, d, change.Master{Seq: 1, Turn: 1, Oldest: 1}, api.OK)
	crash(d)
	wantNoRead(t, d, api.ErrDown)
	d = device.New(24)
	crash(d)
	wantNoRead(t, d, api.ErrDown)
}

// Each byte of the block counts.
func TestReadOfBentMasters(t *testing.T) {
	lesser, greater := change.Master{Seq: 4, Turn: 9, Oldest: 300}, change.Master{Seq: 5, Turn: 10, Oldest: 400}
	for at := range api.BlockSize {
		for _, bit := range []byte{1, 128, 255} {
			d := device.New(24)
			b := laid(greater)
			b[at] ^= bit
			d.Write(1, b)
			wantNoRead(t, d, api.ErrShape)
			d.Write(0, laid(lesser))
			wantRead(t, d, lesser)
		}
	}
}

// Bytes whose sum is right, of numbers that may not be.
func TestReadOfMastersThatMayNotBe(t *testing.T) {
	for _, m := range mightNot() {
		for block := range 2 {
			d := device.New(24)
			d.Write(block, laid(m))
			wantNoRead(t, d, api.ErrShape)
			other := change.Master{Seq: int64(3 - block), Turn: 1, Oldest: 1}
			d.Write(1-block, laid(other))
			wantRead(t, d, other)
		}
	}
}

// A master stands in its own block alone.
func TestReadOfMastersElsewhere(t *testing.T) {
	for seq := int64(1); seq < 5; seq++ {
		m := change.Master{Seq: seq, Turn: 2, Oldest: 3}
		d := device.New(24)
		for i := range 24 {
			if i != int(seq%2) {
				d.Write(i, laid(m))
			}
		}
		wantNoRead(t, d, api.ErrShape)
	}
}

func TestTheGreaterSeqCounts(t *testing.T) {
	for a := int64(2); a < 12; a += 2 {
		for b := int64(1); b < 12; b += 2 {
			even, odd := change.Master{Seq: a, Turn: 50 - a, Oldest: 90 - a}, change.Master{Seq: b, Turn: 50 - b, Oldest: 90 - b}
			d := device.New(24)
			wantWrite(t, d, even, api.OK)
			wantWrite(t, d, odd, api.OK)
			if a > b {
				wantRead(t, d, even)
			} else {
				wantRead(t, d, odd)
			}
			d.Write(0, of(0))
			wantRead(t, d, odd)
		}
	}
}

// Blocks of less than 24 can't be written by Write; what stands in them is read all the same.
func TestReadOfFewBlocks(t *testing.T) {
	m := change.Master{Seq: 3, Turn: 1, Oldest: 1}
	d := device.New(2)
	d.Write(1, laid(m))
	wantRead(t, d, m)
}
