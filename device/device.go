// Package device is layer 1: see shared/doc/01-device.md.
package device

import (
	"maps"

	"parchment/api"
)

// content is a block's bytes; as an array it is copied wherever it goes, so no two blocks share any.
type content [api.BlockSize]byte

// Device is blocks. A block that neither map has is noughts, so that a great device costs no more than what was written to it.
type Device struct {
	blocks int // 0: no call of this package made it
	down   bool
	ahead  int             // which of the Writes and Syncs to come crashes it; 0: not armed
	safe   map[int]content // what a crash leaves as it is
	open   map[int]content // the latest bytes of the open blocks alone
}

// New is a device of so many blocks, or nil, if there may not be so many.
func New(blocks int) *Device {
	if blocks < 1 || blocks > api.MaxBlocks {
		return nil
	}
	return &Device{blocks: blocks, safe: map[int]content{}, open: map[int]content{}}
}

// Blocks is how many blocks the device has.
func (d *Device) Blocks() int {
	if !d.made() {
		return 0
	}
	return d.blocks
}

// Read answers a block's latest bytes.
func (d *Device) Read(block int) ([]byte, api.Errno) {
	if e := d.reach(block); e != api.OK {
		return nil, e
	}
	latest, ok := d.open[block]
	if !ok {
		latest = d.safe[block]
	}
	out := make([]byte, api.BlockSize)
	copy(out, latest[:])
	return out, api.OK
}

// Write gives a block its latest bytes, and opens it.
func (d *Device) Write(block int, b []byte) api.Errno {
	if e := d.reach(block); e != api.OK {
		return e
	}
	if len(b) != api.BlockSize {
		return api.ErrArg
	}
	var latest content
	copy(latest[:], b)
	// Ahead of the crash, if there is one: its fates choose among these bytes.
	d.open[block] = latest
	return d.count()
}

// Sync makes all blocks' latest bytes safe.
func (d *Device) Sync() api.Errno {
	if e := d.awake(); e != api.OK {
		return e
	}
	if e := d.count(); e != api.OK {
		return e
	}
	for block, latest := range d.open {
		d.safe[block] = latest
	}
	clear(d.open)
	return api.OK
}

// Arm lets the device crash at the n-th Write or Sync from now on; below 1: at none.
func (d *Device) Arm(n int) {
	if d.awake() != api.OK {
		return
	}
	d.ahead = max(n, 0)
}

// Down is whether the device has crashed and not woken since.
func (d *Device) Down() bool {
	return d.made() && d.down
}

// Wake ends a crash: of what was not synced just those sectors stay that the fates keep.
func (d *Device) Wake(fates []api.Fate) {
	if !d.made() {
		return
	}
	keeps := map[int]uint8{}
	for _, f := range fates {
		keeps[f.Block] = f.Keep
	}
	for block, latest := range d.open {
		d.safe[block] = torn(d.safe[block], latest, keeps[block])
	}
	clear(d.open)
	d.down = false
	d.ahead = 0
}

// Copy is a device of its own, the same in all.
func (d *Device) Copy() *Device {
	if !d.made() {
		return nil
	}
	twin := *d
	twin.safe = maps.Clone(d.safe)
	twin.open = maps.Clone(d.open)
	return &twin
}

func (d *Device) made() bool {
	return d != nil && d.blocks > 0
}

// awake is what every call on the device is told first.
func (d *Device) awake() api.Errno {
	if !d.made() {
		return api.ErrNil
	}
	if d.down {
		return api.ErrDown
	}
	return api.OK
}

// reach is what a call on one block is told first.
func (d *Device) reach(block int) api.Errno {
	if e := d.awake(); e != api.OK {
		return e
	}
	if block < 0 || block >= d.blocks {
		return api.ErrNone
	}
	return api.OK
}

// count takes a Write or Sync that nothing else refuses as one of those that the device is armed for: ErrDown, if it crashes at it.
func (d *Device) count() api.Errno {
	if d.ahead == 0 {
		return api.OK
	}
	d.ahead--
	if d.ahead > 0 {
		return api.OK
	}
	d.down = true
	return api.ErrDown
}

// torn is the safe bytes with the latest ones in the sectors whose bits stand in keep.
func torn(safe, latest content, keep uint8) content {
	for sector := range api.BlockSize / api.Sector {
		if keep>>sector&1 == 1 {
			from := sector * api.Sector
			copy(safe[from:from+api.Sector], latest[from:])
		}
	}
	return safe
}
