package pool

import (
	"cmp"
	"slices"

	"parchment/api"
)

// frame is where a page is.
type frame struct {
	page  int
	bytes [api.BlockSize]byte
	holds int
	asked bool // for once more since it came, or since the hand went by

	first int64 // the lsn of the first change since the page was read, or written last; 0: it is not dirty
	last  int64 // the greatest one
}

func (f *frame) dirty() bool {
	return f.first > 0
}

// change puts bytes into the page.
func (f *frame) change(off int, b []byte, lsn int64) {
	copy(f.bytes[off:], b)
	if !f.dirty() {
		f.first = lsn
	}
	f.last = max(f.last, lsn)
}

// found is a page's frame. If it is in none, it is read into one, for which another page may have to go; whatever can fail is done ahead of what a later call could tell.
func (p *Pool) found(page int) (*frame, api.Errno) {
	if f, ok := p.frames[page]; ok {
		f.asked = true
		return f, api.OK
	}
	steps, ok := p.leaving()
	if !ok {
		return nil, api.ErrBusy
	}
	b, e := p.device.Read(p.start + page)
	if e != api.OK {
		return nil, e
	}
	f := &frame{page: page}
	copy(f.bytes[:], b)
	if e := p.enter(f, steps); e != api.OK {
		return nil, e
	}
	p.frames[page] = f
	return f, api.OK
}

// leaving is how far from the hand the page is that goes for another one. One that was asked for again stays till the hand comes once more.
func (p *Pool) leaving() (int, bool) {
	if p.spare() {
		return 0, true
	}
	return p.ring.seek(func(f *frame, again bool) bool {
		return f.holds == 0 && (again || !f.asked)
	})
}

// enter puts a page's frame into the ring, in the place of the one so many steps on, unless there is a spare one.
func (p *Pool) enter(f *frame, steps int) api.Errno {
	if p.spare() {
		p.ring.add(f)
		return api.OK
	}
	if e := p.save(p.ring.ahead(steps)); e != api.OK {
		return e
	}
	p.ring.turn(steps, func(passed *frame) { passed.asked = false })
	delete(p.frames, p.ring.swap(f).page)
	return api.OK
}

// spare is whether there is a frame that no page was ever in.
func (p *Pool) spare() bool {
	return len(p.ring.slots) < p.most
}

// save writes a page that goes, if it is dirty.
func (p *Pool) save(f *frame) api.Errno {
	if !f.dirty() {
		return api.OK
	}
	if e := p.cover(f); e != api.OK {
		return e
	}
	return p.write(f)
}

// cover forces the log, unless all changes of the pages are safe in it.
func (p *Pool) cover(pages ...*frame) api.Errno {
	for _, f := range pages {
		if f.last >= p.log.Safe() {
			return p.log.Force()
		}
	}
	return api.OK
}

// write writes a page whose changes are safe in the log.
func (p *Pool) write(f *frame) api.Errno {
	if e := p.device.Write(p.start+f.page, f.bytes[:]); e != api.OK {
		return e
	}
	f.first = 0
	return api.OK
}

// rising are the frames of the dirty pages, in the order of these.
func (p *Pool) rising() []*frame {
	var out []*frame
	for _, f := range p.ring.slots {
		if f.dirty() {
			out = append(out, f)
		}
	}
	slices.SortFunc(out, func(a, b *frame) int { return cmp.Compare(a.page, b.page) })
	return out
}
