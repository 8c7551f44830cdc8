package log

import (
	"parchment/api"
	"parchment/device"
)

const (
	stampSize    = 13
	sectorBytes  = api.Sector - stampSize // of the log's, in a sector
	blockSectors = api.BlockSize / api.Sector
	blockBytes   = blockSectors * sectorBytes // of the log's, in a block
)

// area is the part of a device that a log goes round.
type area struct {
	device       *device.Device
	first, count int
}

// stamp is what a sector says of itself.
type stamp struct {
	place int64 // of its first byte
	turn  int64
	used  int
}

// block is the device's block in which a place stands.
func (a area) block(place int64) int {
	return a.first + int((place-1)/blockBytes%int64(a.count))
}

// sectorOf is the sector of a place, within the bytes of its block.
func sectorOf(block []byte, place int64) []byte {
	from := int((place-1)/sectorBytes%blockSectors) * api.Sector
	return block[from : from+api.Sector]
}

// inSector is how many bytes stand ahead of a place in its sector, inBlock how many in its block.
func inSector(place int64) int { return int((place - 1) % sectorBytes) }
func inBlock(place int64) int  { return int((place - 1) % blockBytes) }

// standing are the bytes that stand from a place on, for a log of that turn. No sector tells two places, so it ends when it has gone round, if not ahead of that.
func (a area) standing(place, turn int64) ([]byte, api.Errno) {
	var out, block []byte
	ahead := inSector(place)
	least := int64(1)
	for at := place - int64(ahead); ; at += sectorBytes {
		if block == nil || inBlock(at) == 0 {
			b, e := a.device.Read(a.block(at))
			if e != api.OK {
				return nil, e
			}
			block = b
		}
		sector := sectorOf(block, at)
		s := readStamp(sector)
		if s.place != at || s.turn < least || s.turn >= turn || s.used < ahead || s.used > sectorBytes {
			return out, api.OK
		}
		out = append(out, sector[stampSize+ahead:stampSize+s.used]...)
		if s.used < sectorBytes {
			return out, api.OK
		}
		ahead, least = 0, s.turn
	}
}

// cutOff lets nothing stand from a place on: of its sector just the bytes ahead of it, with a turn that none of the sectors behind has reached.
func (a area) cutOff(place, turn int64) api.Errno {
	block, e := a.device.Read(a.block(place))
	if e != api.OK {
		return e
	}
	ahead := inSector(place)
	seal(sectorOf(block, place), stamp{place - int64(ahead), turn, ahead})
	if e := a.device.Write(a.block(place), block); e != api.OK {
		return e
	}
	return a.device.Sync()
}

func readStamp(sector []byte) stamp {
	return stamp{int64(take[uint64](&sector)), int64(take[uint32](&sector)), int(take[uint8](&sector))}
}

// seal gives a sector its stamp, and noughts behind what it says to be used.
func seal(sector []byte, s stamp) {
	b := put(nil, uint64(s.place))
	b = put(b, uint32(s.turn))
	b = put(b, uint8(s.used))
	copy(sector, b)
	clear(sector[stampSize+s.used:])
}
