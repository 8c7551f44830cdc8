package change

import (
	"bytes"

	"parchment/api"
	"parchment/device"
	"parchment/key"
)

const (
	minBlocks = 24
	masters   = 2 // blocks for masters, ahead of the pages
)

const (
	maxTurn   = 1<<31 - 2
	maxOldest = 1 << 61
)

// mark is what a master's bytes begin with.
const mark = "PM01"

// polynomial is CRC-32's, reversed.
const polynomial = 0xEDB88320

// Master is what says where the log begins that counts.
type Master struct {
	Seq, Turn, Oldest int64
}

// Place is where pages and log are on a device of so many blocks, and how many blocks they have.
func Place(blocks int) (first, pages, log, count int) {
	if blocks < minBlocks || blocks > api.MaxBlocks {
		return 0, 0, 0, 0
	}
	count = blocks / 2
	return masters, blocks - masters - count, blocks - count, count
}

// Format makes a device one of pages of noughts, with a log of no records.
func Format(d *device.Device) api.Errno {
	if d.Blocks() == 0 {
		return api.ErrNil
	}
	if d.Blocks() < minBlocks {
		return api.ErrArg
	}
	return inTurn(
		func() api.Errno { return wipe(d) },
		// Ahead of the master: a device that has one has nothing else left of what it was.
		func() api.Errno { return d.Sync() },
		func() api.Errno { return Write(d, Master{Seq: 1, Turn: 1, Oldest: 1}) },
	)
}

// Read is the master of a device.
func Read(d *device.Device) (Master, api.Errno) {
	if d.Blocks() == 0 {
		return Master{}, api.ErrNil
	}
	var latest Master
	for block := range masters {
		b, e := d.Read(block)
		if e != api.OK {
			return Master{}, e
		}
		if m := standing(b, block); m.Seq > latest.Seq {
			latest = m
		}
	}
	if latest == (Master{}) {
		return Master{}, api.ErrShape
	}
	return latest, api.OK
}

// Write puts a master into its block. The one ahead of it stands in the other block, and stays whole whatever becomes of this one.
func Write(d *device.Device, m Master) api.Errno {
	if d.Blocks() == 0 {
		return api.ErrNil
	}
	if !m.mayBe() || d.Blocks() < minBlocks {
		return api.ErrArg
	}
	return inTurn(
		func() api.Errno { return d.Write(m.block(), m.laid()) },
		func() api.Errno { return d.Sync() },
	)
}

// wipe makes all blocks noughts.
func wipe(d *device.Device) api.Errno {
	noughts := make([]byte, api.BlockSize)
	for block := range d.Blocks() {
		if e := d.Write(block, noughts); e != api.OK {
			return e
		}
	}
	return api.OK
}

// standing is the master that stands whole in a block, or the zero one, which may not be.
func standing(b []byte, block int) Master {
	var numbers [3]int64
	rest := b[len(mark):]
	for i := range numbers {
		n, size, _ := key.GetInt(rest)
		numbers[i] = n
		rest = rest[size:]
	}
	m := Master{Seq: numbers[0], Turn: numbers[1], Oldest: numbers[2]}
	if !m.mayBe() || m.block() != block || !bytes.Equal(b, m.laid()) {
		return Master{}
	}
	return m
}

func (m Master) mayBe() bool {
	return m.Seq >= 1 && m.Turn >= 1 && m.Turn <= maxTurn && m.Oldest >= 1 && m.Oldest <= maxOldest
}

// block is the one in which a master stands.
func (m Master) block() int {
	return int(m.Seq % masters)
}

// laid is a master's block, byte by byte.
func (m Master) laid() []byte {
	out := make([]byte, 0, api.BlockSize)
	out = append(out, mark...)
	for _, n := range [...]int64{m.Seq, m.Turn, m.Oldest} {
		out = append(out, key.PutInt(n)...)
	}
	all := sum(out)
	out = append(out, byte(all>>24), byte(all>>16), byte(all>>8), byte(all))
	return out[:api.BlockSize]
}

// sum is the CRC-32 that the log has, too, and keeps to itself.
func sum(b []byte) uint32 {
	all := ^uint32(0)
	for _, x := range b {
		all ^= uint32(x)
		for range 8 {
			// -(all & 1) is all ones or none: the polynomial counts where a one is shifted out.
			all = all>>1 ^ polynomial&-(all&1)
		}
	}
	return ^all
}
