package device_test

import (
	"bytes"
	"math"
	"testing"

	"parchment/api"
	"parchment/device"
)

// full is a block of one byte.
func full(b byte) []byte { return bytes.Repeat([]byte{b}, api.BlockSize) }

// rising is a block whose bytes differ within a sector and between sectors.
func rising(from int) []byte {
	b := make([]byte, api.BlockSize)
	for i := range b {
		b[i] = byte(from + i + i/api.Sector*7)
	}
	return b
}

// mixed is what a crash leaves of a block: safe, but for the sectors of keep, which are latest.
func mixed(safe, latest []byte, keep uint8) []byte {
	out := bytes.Clone(safe)
	for i := range out {
		if keep&(1<<(i/64)) != 0 {
			out[i] = latest[i]
		}
	}
	return out
}

func made(t *testing.T, blocks int) *device.Device {
	t.Helper()
	d := device.New(blocks)
	if d == nil {
		t.Fatalf("New(%d) is nil", blocks)
	}
	return d
}

func wantRead(t *testing.T, d *device.Device, block int, want []byte) {
	t.Helper()
	if b, e := d.Read(block); e != api.OK || !bytes.Equal(b, want) {
		t.Errorf("Read(%d) = %v, %d; want %v, OK", block, b, e, want)
	}
}

func wantNoRead(t *testing.T, d *device.Device, block int, want api.Errno) {
	t.Helper()
	if b, e := d.Read(block); e != want || len(b) != 0 {
		t.Errorf("Read(%d) = %v, %d; want nothing, %d", block, b, e, want)
	}
}

func wantWrite(t *testing.T, d *device.Device, block int, b []byte, want api.Errno) {
	t.Helper()
	if e := d.Write(block, b); e != want {
		t.Errorf("Write(%d, %d bytes) = %d, want %d", block, len(b), e, want)
	}
}

func wantSync(t *testing.T, d *device.Device, want api.Errno) {
	t.Helper()
	if e := d.Sync(); e != want {
		t.Errorf("Sync = %d, want %d", e, want)
	}
}

func wantDown(t *testing.T, d *device.Device, want bool) {
	t.Helper()
	if d.Down() != want {
		t.Errorf("Down = %v, want %v", !want, want)
	}
}

// P1.1.

func TestNewTakesItsBounds(t *testing.T) {
	for _, n := range []int{math.MinInt, -1, 0, api.MaxBlocks + 1, math.MaxInt} {
		if device.New(n) != nil {
			t.Errorf("New(%d) is not nil", n)
		}
	}
	for _, n := range []int{1, 2, api.MaxBlocks - 1, api.MaxBlocks} {
		d := made(t, n)
		if d.Blocks() != n {
			t.Errorf("Blocks of New(%d) = %d", n, d.Blocks())
		}
		wantDown(t, d, false)
		wantRead(t, d, 0, full(0))
		wantRead(t, d, n-1, full(0))
		wantNoRead(t, d, n, api.ErrNone)
	}
}

func TestNewIsNotArmed(t *testing.T) {
	d := made(t, 1)
	for range 100 {
		wantWrite(t, d, 0, full(1), api.OK)
		wantSync(t, d, api.OK)
	}
	wantDown(t, d, false)
}

func TestBlocksOfADeviceThatIsDown(t *testing.T) {
	d := made(t, 3)
	d.Arm(1)
	wantSync(t, d, api.ErrDown)
	if d.Blocks() != 3 {
		t.Errorf("Blocks = %d, want 3", d.Blocks())
	}
}

// P1.2 and P1.3.

func TestReadAnswersTheLatest(t *testing.T) {
	d := made(t, 3)
	wantWrite(t, d, 1, rising(1), api.OK)
	wantRead(t, d, 1, rising(1))
	wantWrite(t, d, 1, rising(2), api.OK)
	wantRead(t, d, 1, rising(2))
	wantSync(t, d, api.OK)
	wantRead(t, d, 1, rising(2))
	wantWrite(t, d, 1, rising(3), api.OK)
	wantRead(t, d, 1, rising(3))
	wantWrite(t, d, 1, full(0), api.OK)
	wantRead(t, d, 1, full(0))
	wantRead(t, d, 0, full(0))
	wantRead(t, d, 2, full(0))
}

func TestNoSuchBlock(t *testing.T) {
	d := made(t, 2)
	for _, block := range []int{math.MinInt, -1, 2, api.MaxBlocks, math.MaxInt} {
		wantNoRead(t, d, block, api.ErrNone)
		wantWrite(t, d, block, full(1), api.ErrNone)
		wantWrite(t, d, block, nil, api.ErrNone)
	}
	wantRead(t, d, 0, full(0))
	wantRead(t, d, 1, full(0))
}

func TestWriteTakesABlockAlone(t *testing.T) {
	d := made(t, 1)
	wantWrite(t, d, 0, rising(5), api.OK)
	wantSync(t, d, api.OK)
	for _, n := range []int{0, 1, api.Sector, api.BlockSize - 1, api.BlockSize + 1, 2 * api.BlockSize} {
		wantWrite(t, d, 0, make([]byte, n), api.ErrArg)
	}
	wantWrite(t, d, 0, make([]byte, 0, api.BlockSize), api.ErrArg)
	wantWrite(t, d, 0, nil, api.ErrArg)
	wantRead(t, d, 0, rising(5))
	d.Wake([]api.Fate{{Block: 0, Keep: 255}})
	wantRead(t, d, 0, rising(5))
}

func TestOrderOfErrors(t *testing.T) {
	d := made(t, 1)
	d.Arm(1)
	wantSync(t, d, api.ErrDown)
	wantNoRead(t, d, 0, api.ErrDown)
	wantNoRead(t, d, -1, api.ErrDown)
	wantNoRead(t, d, 1, api.ErrDown)
	wantWrite(t, d, 0, full(1), api.ErrDown)
	wantWrite(t, d, -1, nil, api.ErrDown)
	wantWrite(t, d, 0, nil, api.ErrDown)
	wantSync(t, d, api.ErrDown)
}

func TestADeviceThatIsDownTakesNothing(t *testing.T) {
	d := made(t, 2)
	wantWrite(t, d, 0, full(1), api.OK)
	d.Arm(1)
	wantSync(t, d, api.ErrDown)
	wantWrite(t, d, 0, full(2), api.ErrDown)
	wantWrite(t, d, 1, full(2), api.ErrDown)
	wantSync(t, d, api.ErrDown)
	d.Wake([]api.Fate{{Block: 0, Keep: 255}, {Block: 1, Keep: 255}})
	wantRead(t, d, 0, full(1))
	wantRead(t, d, 1, full(0))
}

func TestSyncMakesAllSafe(t *testing.T) {
	d := made(t, 40)
	for i := range 40 {
		wantWrite(t, d, i, rising(i), api.OK)
	}
	wantSync(t, d, api.OK)
	wantSync(t, d, api.OK)
	d.Wake(nil)
	for i := range 40 {
		wantRead(t, d, i, rising(i))
	}
}

func TestWriteOpensAgain(t *testing.T) {
	d := made(t, 1)
	wantWrite(t, d, 0, full(1), api.OK)
	wantSync(t, d, api.OK)
	wantWrite(t, d, 0, full(2), api.OK)
	wantWrite(t, d, 0, full(3), api.OK)
	d.Wake(nil)
	wantRead(t, d, 0, full(1))
}

func TestEveryBlockOfTheGreatestDevice(t *testing.T) {
	d := made(t, api.MaxBlocks)
	for i := range api.MaxBlocks {
		wantWrite(t, d, i, rising(i>>8+i), api.OK)
	}
	wantSync(t, d, api.OK)
	d.Wake(nil)
	for i := range api.MaxBlocks {
		wantRead(t, d, i, rising(i>>8+i))
	}
}

// P1.4.

func TestArmCountsWritesAndSyncs(t *testing.T) {
	for n := 1; n <= 9; n++ {
		d := made(t, 2)
		d.Arm(n)
		for i := 1; i < n; i++ {
			if i%3 == 0 {
				wantSync(t, d, api.OK)
			} else {
				wantWrite(t, d, i%2, full(byte(i)), api.OK)
			}
			wantDown(t, d, false)
		}
		if n%2 == 0 {
			wantSync(t, d, api.ErrDown)
		} else {
			wantWrite(t, d, 0, full(99), api.ErrDown)
		}
		wantDown(t, d, true)
	}
}

func TestWhatIsRefusedCountsNothing(t *testing.T) {
	d := made(t, 1)
	d.Arm(2)
	for range 5 {
		wantWrite(t, d, -1, full(1), api.ErrNone)
		wantWrite(t, d, 1, full(1), api.ErrNone)
		wantWrite(t, d, 0, full(1)[1:], api.ErrArg)
		wantNoRead(t, d, 1, api.ErrNone)
		wantRead(t, d, 0, full(0))
	}
	wantWrite(t, d, 0, full(1), api.OK)
	wantWrite(t, d, 0, nil, api.ErrArg)
	wantWrite(t, d, 5, nil, api.ErrNone)
	wantDown(t, d, false)
	wantSync(t, d, api.ErrDown)
	wantDown(t, d, true)
}

func TestArmAgain(t *testing.T) {
	d := made(t, 1)
	d.Arm(1)
	d.Arm(3)
	wantSync(t, d, api.OK)
	wantSync(t, d, api.OK)
	d.Arm(2)
	wantSync(t, d, api.OK)
	for _, n := range []int{0, -1, math.MinInt} {
		d.Arm(1)
		d.Arm(n)
		for range 5 {
			wantSync(t, d, api.OK)
		}
	}
	d.Arm(math.MaxInt)
	wantSync(t, d, api.OK)
	wantWrite(t, d, 0, full(1), api.OK)
	wantDown(t, d, false)
}

func TestArmOfADeviceThatIsDown(t *testing.T) {
	d := made(t, 1)
	d.Arm(1)
	wantSync(t, d, api.ErrDown)
	d.Arm(0)
	wantDown(t, d, true)
	d.Arm(1)
	d.Wake(nil)
	for range 5 {
		wantSync(t, d, api.OK)
	}
}

func TestNotArmedAnyMoreBehindACrash(t *testing.T) {
	d := made(t, 1)
	d.Arm(1)
	wantWrite(t, d, 0, full(1), api.ErrDown)
	d.Wake(nil)
	for range 5 {
		wantWrite(t, d, 0, full(1), api.OK)
		wantSync(t, d, api.OK)
	}
}

func TestASyncThatCrashesDoesNothing(t *testing.T) {
	d := made(t, 2)
	wantWrite(t, d, 0, full(1), api.OK)
	wantSync(t, d, api.OK)
	wantWrite(t, d, 0, full(2), api.OK)
	wantWrite(t, d, 1, full(3), api.OK)
	d.Arm(1)
	wantSync(t, d, api.ErrDown)
	d.Wake([]api.Fate{{Block: 1, Keep: 1}})
	wantRead(t, d, 0, full(1))
	wantRead(t, d, 1, mixed(full(0), full(3), 1))
}

func TestAWriteThatCrashesHasWritten(t *testing.T) {
	for keep := range 256 {
		d := made(t, 2)
		wantWrite(t, d, 1, rising(3), api.OK)
		wantSync(t, d, api.OK)
		wantWrite(t, d, 1, rising(90), api.OK)
		d.Arm(1)
		wantWrite(t, d, 1, rising(160), api.ErrDown)
		d.Wake([]api.Fate{{Block: 1, Keep: uint8(keep)}})
		wantRead(t, d, 1, mixed(rising(3), rising(160), uint8(keep)))
	}
}

// P1.5.

func TestWakeKeepsSectorsOfFates(t *testing.T) {
	for keep := range 256 {
		d := made(t, 3)
		wantWrite(t, d, 1, rising(3), api.OK)
		wantSync(t, d, api.OK)
		wantWrite(t, d, 1, rising(90), api.OK)
		wantWrite(t, d, 2, rising(17), api.OK)
		d.Wake([]api.Fate{{Block: 1, Keep: uint8(keep)}, {Block: 2, Keep: ^uint8(keep)}})
		wantRead(t, d, 0, full(0))
		wantRead(t, d, 1, mixed(rising(3), rising(90), uint8(keep)))
		wantRead(t, d, 2, mixed(full(0), rising(17), ^uint8(keep)))
	}
}

func TestTheLastFateOfABlockCounts(t *testing.T) {
	d := made(t, 2)
	wantWrite(t, d, 0, full(1), api.OK)
	wantWrite(t, d, 1, full(2), api.OK)
	d.Wake([]api.Fate{{Block: 0, Keep: 255}, {Block: 1, Keep: 0}, {Block: 0, Keep: 6}, {Block: 1, Keep: 128}})
	wantRead(t, d, 0, mixed(full(0), full(1), 6))
	wantRead(t, d, 1, mixed(full(0), full(2), 128))

	wantWrite(t, d, 0, full(3), api.OK)
	d.Wake([]api.Fate{{Block: 0, Keep: 255}, {Block: 0, Keep: 0}})
	wantRead(t, d, 0, mixed(full(0), full(1), 6))
}

func TestFatesOfOtherBlocksMeanNothing(t *testing.T) {
	d := made(t, 3)
	wantWrite(t, d, 0, full(1), api.OK)
	wantWrite(t, d, 2, full(2), api.OK)
	wantSync(t, d, api.OK)
	wantWrite(t, d, 2, full(3), api.OK)
	d.Wake([]api.Fate{{Block: 0, Keep: 255}, {Block: 1, Keep: 255}, {Block: -1, Keep: 255}, {Block: 3, Keep: 255}, {Block: math.MinInt, Keep: 255}, {Block: math.MaxInt, Keep: 255}})
	wantRead(t, d, 0, full(1))
	wantRead(t, d, 1, full(0))
	wantRead(t, d, 2, full(2))
	if d.Blocks() != 3 {
		t.Errorf("Blocks = %d, want 3", d.Blocks())
	}
}

func TestWhatWakesIsSafe(t *testing.T) {
	d := made(t, 1)
	wantWrite(t, d, 0, full(1), api.OK)
	wantSync(t, d, api.OK)
	wantWrite(t, d, 0, full(2), api.OK)
	d.Wake([]api.Fate{{Block: 0, Keep: 3}})
	d.Wake(nil)
	wantRead(t, d, 0, mixed(full(1), full(2), 3))
	d.Wake([]api.Fate{{Block: 0, Keep: 255}})
	wantRead(t, d, 0, mixed(full(1), full(2), 3))
	wantWrite(t, d, 0, full(4), api.OK)
	d.Wake([]api.Fate{{Block: 0, Keep: 5}})
	wantRead(t, d, 0, mixed(mixed(full(1), full(2), 3), full(4), 5))
}

func TestWakeDisarms(t *testing.T) {
	d := made(t, 1)
	d.Arm(1)
	d.Wake(nil)
	wantDown(t, d, false)
	for range 5 {
		wantSync(t, d, api.OK)
	}
	d.Arm(1)
	wantSync(t, d, api.ErrDown)
	d.Wake(nil)
	wantDown(t, d, false)
	wantSync(t, d, api.OK)
}

// P1.6.

func TestCopyIsTheSameInAll(t *testing.T) {
	d := made(t, 4)
	wantWrite(t, d, 0, rising(1), api.OK)
	wantWrite(t, d, 1, rising(2), api.OK)
	wantSync(t, d, api.OK)
	wantWrite(t, d, 1, rising(3), api.OK)
	wantWrite(t, d, 2, rising(4), api.OK)
	d.Arm(2)
	for _, c := range []*device.Device{d.Copy(), d.Copy().Copy()} {
		if c.Blocks() != 4 {
			t.Errorf("Blocks = %d, want 4", c.Blocks())
		}
		wantDown(t, c, false)
		wantRead(t, c, 0, rising(1))
		wantRead(t, c, 1, rising(3))
		wantRead(t, c, 2, rising(4))
		wantRead(t, c, 3, full(0))
		wantWrite(t, c, 3, rising(5), api.OK)
		wantSync(t, c, api.ErrDown)
		down := c.Copy()
		for _, x := range []*device.Device{c, down} {
			wantDown(t, x, true)
			wantNoRead(t, x, 0, api.ErrDown)
			x.Wake([]api.Fate{{Block: 1, Keep: 1}, {Block: 2, Keep: 2}, {Block: 3, Keep: 4}})
			wantRead(t, x, 0, rising(1))
			wantRead(t, x, 1, mixed(rising(2), rising(3), 1))
			wantRead(t, x, 2, mixed(full(0), rising(4), 2))
			wantRead(t, x, 3, mixed(full(0), rising(5), 4))
		}
	}
}

func TestCopyIsItsOwn(t *testing.T) {
	d := made(t, 3)
	wantWrite(t, d, 0, full(1), api.OK)
	wantSync(t, d, api.OK)
	wantWrite(t, d, 1, full(2), api.OK)
	c := d.Copy()

	wantWrite(t, c, 0, full(7), api.OK)
	wantWrite(t, c, 1, full(8), api.OK)
	wantWrite(t, c, 2, full(9), api.OK)
	wantSync(t, c, api.OK)
	c.Arm(1)
	wantSync(t, c, api.ErrDown)

	wantDown(t, d, false)
	wantSync(t, d.Copy(), api.OK)
	wantRead(t, d, 0, full(1))
	wantRead(t, d, 1, full(2))
	wantRead(t, d, 2, full(0))
	d.Wake(nil)
	wantRead(t, d, 0, full(1))
	wantRead(t, d, 1, full(0))
	wantWrite(t, d, 0, full(3), api.OK)
	wantSync(t, d, api.OK)

	wantDown(t, c, true)
	c.Wake(nil)
	wantRead(t, c, 0, full(7))
	wantRead(t, c, 1, full(8))
	wantRead(t, c, 2, full(9))
}

// P1.7.

func TestASyncedBlockIsAsItWas(t *testing.T) {
	for keep := range 256 {
		d := made(t, 2)
		wantWrite(t, d, 0, rising(1), api.OK)
		wantSync(t, d, api.OK)
		wantWrite(t, d, 1, rising(2), api.OK)
		d.Arm(1)
		wantWrite(t, d, 1, rising(3), api.ErrDown)
		d.Wake([]api.Fate{{Block: 0, Keep: uint8(keep)}, {Block: 1, Keep: uint8(keep)}})
		wantRead(t, d, 0, rising(1))
	}
}

func TestASectorIsAsSyncedOrAsWrittenLast(t *testing.T) {
	for keep := range 256 {
		d := made(t, 1)
		wantWrite(t, d, 0, rising(1), api.OK)
		wantSync(t, d, api.OK)
		wantWrite(t, d, 0, rising(50), api.OK)
		wantWrite(t, d, 0, rising(120), api.OK)
		d.Wake([]api.Fate{{Block: 0, Keep: uint8(keep)}})
		b, e := d.Read(0)
		if e != api.OK || len(b) != api.BlockSize {
			t.Fatalf("Read = %d bytes, %d", len(b), e)
		}
		for s := 0; s < api.BlockSize; s += api.Sector {
			now := b[s : s+api.Sector]
			if !bytes.Equal(now, rising(1)[s:s+api.Sector]) && !bytes.Equal(now, rising(120)[s:s+api.Sector]) {
				t.Errorf("keep %d: the sector from %d on is neither as synced nor as written last", keep, s)
			}
		}
	}
}

// R3.

func TestWhatIsHandedInIsNotKept(t *testing.T) {
	d := made(t, 1)
	room := append(rising(1), rising(2)...)
	b := room[:api.BlockSize]
	wantWrite(t, d, 0, b, api.OK)
	wantSync(t, d, api.OK)
	wantWrite(t, d, 0, b, api.OK)
	if !bytes.Equal(room, append(rising(1), rising(2)...)) {
		t.Error("Write changed what was handed in")
	}
	clear(room)
	wantRead(t, d, 0, rising(1))
	d.Wake(nil)
	wantRead(t, d, 0, rising(1))
}

func TestFatesAreNotChanged(t *testing.T) {
	d := made(t, 2)
	wantWrite(t, d, 0, full(1), api.OK)
	room := []api.Fate{{Block: 1, Keep: 9}, {Block: 0, Keep: 1}, {Block: 0, Keep: 3}, {Block: 0, Keep: 255}}
	was := [4]api.Fate(room)
	d.Wake(room[:3])
	if [4]api.Fate(room) != was {
		t.Errorf("Wake made %v of its fates", room)
	}
	wantRead(t, d, 0, mixed(full(0), full(1), 3))
}

func TestWhatIsHandedOutIsNew(t *testing.T) {
	for _, synced := range []bool{false, true} {
		d := made(t, 2)
		wantWrite(t, d, 0, full(1), api.OK)
		if synced {
			wantSync(t, d, api.OK)
		}
		for block, want := range [][]byte{full(1), full(0)} {
			first, _ := d.Read(block)
			second, _ := d.Read(block)
			first = first[:cap(first)]
			for i := range first {
				first[i] = 0xEE
			}
			if !bytes.Equal(second, want) {
				t.Error("two answers share memory")
			}
			wantRead(t, d, block, want)
			d.Sync()
			d.Wake(nil)
			wantRead(t, d, block, want)
		}
	}
}

// R5.

func TestNoDevice(t *testing.T) {
	for _, d := range []*device.Device{nil, {}} {
		for range 2 { // Arm, Wake and Sync must not make one of it
			if d.Blocks() != 0 {
				t.Errorf("Blocks = %d, want 0", d.Blocks())
			}
			for _, block := range []int{-1, 0, 1} {
				wantNoRead(t, d, block, api.ErrNil)
				wantWrite(t, d, block, full(1), api.ErrNil)
				wantWrite(t, d, block, nil, api.ErrNil)
			}
			wantSync(t, d, api.ErrNil)
			if d.Copy() != nil {
				t.Error("Copy is not nil")
			}
			d.Arm(1)
			wantSync(t, d, api.ErrNil)
			wantDown(t, d, false)
			d.Wake([]api.Fate{{Block: 0, Keep: 255}})
			wantDown(t, d, false)
		}
	}
}

// The chapter's examples.

func TestExamples(t *testing.T) {
	d := made(t, 2)
	wantWrite(t, d, 0, full(1), api.OK)
	wantSync(t, d, api.OK)
	wantWrite(t, d, 0, full(2), api.OK)
	d.Wake([]api.Fate{{Block: 0, Keep: 3}})
	wantRead(t, d, 0, append(full(2)[:128], full(1)[128:]...))

	d = made(t, 1)
	d.Arm(2)
	wantWrite(t, d, 0, full(1), api.OK)
	wantSync(t, d, api.ErrDown)
	wantNoRead(t, d, 0, api.ErrDown)
	d.Wake(nil)
	wantRead(t, d, 0, full(0))
	d.Arm(1)
	wantWrite(t, d, 0, full(1), api.ErrDown)
	d.Wake([]api.Fate{{Block: 0, Keep: 255}})
	wantRead(t, d, 0, full(1))

	wantWrite(t, d, 0, full(1)[:511], api.ErrArg)
	wantNoRead(t, d, -1, api.ErrNone)
}
