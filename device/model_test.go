package device_test

import (
	"bytes"
	"math/rand"
	"testing"

	"parchment/api"
	"parchment/device"
)

// model is a device as the chapter's words have it: each block's latest and safe bytes, and whether it is open.
type model struct {
	latest, safe [][]byte
	open         []bool
	down         bool
	armed        int
}

func newModel(blocks int) *model {
	m := &model{open: make([]bool, blocks)}
	for range blocks {
		m.latest = append(m.latest, full(0))
		m.safe = append(m.safe, full(0))
	}
	return m
}

func (m *model) copy() *model {
	c := *m
	c.latest, c.safe, c.open = nil, nil, append([]bool(nil), m.open...)
	for i := range m.open {
		c.latest = append(c.latest, bytes.Clone(m.latest[i]))
		c.safe = append(c.safe, bytes.Clone(m.safe[i]))
	}
	return &c
}

func (m *model) read(block int) ([]byte, api.Errno) {
	switch {
	case m.down:
		return nil, api.ErrDown
	case block < 0 || block >= len(m.open):
		return nil, api.ErrNone
	}
	return m.latest[block], api.OK
}

func (m *model) crash() bool {
	if m.armed > 0 {
		m.armed--
		m.down = m.armed == 0
	}
	return m.down
}

func (m *model) write(block int, b []byte) api.Errno {
	switch {
	case m.down:
		return api.ErrDown
	case block < 0 || block >= len(m.open):
		return api.ErrNone
	case len(b) != 512:
		return api.ErrArg
	}
	m.latest[block], m.open[block] = bytes.Clone(b), true
	if m.crash() {
		return api.ErrDown
	}
	return api.OK
}

func (m *model) sync() api.Errno {
	if m.down || m.crash() {
		return api.ErrDown
	}
	for i := range m.open {
		m.safe[i], m.open[i] = bytes.Clone(m.latest[i]), false
	}
	return api.OK
}

func (m *model) wake(fates []api.Fate) {
	m.down, m.armed = false, 0
	for i := range m.open {
		if !m.open[i] {
			continue
		}
		var keep uint8
		for _, f := range fates {
			if f.Block == i {
				keep = f.Keep
			}
		}
		m.safe[i] = mixed(m.safe[i], m.latest[i], keep)
		m.latest[i], m.open[i] = bytes.Clone(m.safe[i]), false
	}
}

func randomBlock(r *rand.Rand) []byte {
	n := 512
	if r.Intn(12) == 0 {
		n = r.Intn(1025)
	}
	b := make([]byte, n)
	r.Read(b)
	return b
}

func randomFates(r *rand.Rand, blocks int) []api.Fate {
	var fates []api.Fate
	for range r.Intn(2 * blocks) {
		fates = append(fates, api.Fate{Block: r.Intn(blocks+2) - 1, Keep: uint8(r.Intn(256))})
	}
	return fates
}

func same(t *testing.T, d *device.Device, m *model) {
	t.Helper()
	if d.Down() != m.down || d.Blocks() != len(m.open) {
		t.Fatalf("Down %v, Blocks %d; want %v, %d", d.Down(), d.Blocks(), m.down, len(m.open))
	}
	for block := -1; block <= len(m.open); block++ {
		b, e := d.Read(block)
		if want, err := m.read(block); e != err || !bytes.Equal(b, want) {
			t.Fatalf("Read(%d) = %v, %d; want %v, %d", block, b, e, want, err)
		}
	}
}

// TestAsTheModel goes long ways of calls (the same ones each time) over devices and their copies.
func TestAsTheModel(t *testing.T) {
	for seed := range int64(60) {
		r := rand.New(rand.NewSource(seed))
		blocks := 1 + r.Intn(6)
		ds, ms := []*device.Device{made(t, blocks)}, []*model{newModel(blocks)}
		for range 300 {
			i := r.Intn(len(ds))
			d, m := ds[i], ms[i]
			switch x := r.Intn(20); {
			case x < 9:
				block, b := r.Intn(blocks+2)-1, randomBlock(r)
				if e, want := d.Write(block, b), m.write(block, b); e != want {
					t.Fatalf("seed %d: Write(%d, %d bytes) = %d, want %d", seed, block, len(b), e, want)
				}
			case x < 13:
				if e, want := d.Sync(), m.sync(); e != want {
					t.Fatalf("seed %d: Sync = %d, want %d", seed, e, want)
				}
			case x < 15:
				n := r.Intn(8) - 1
				d.Arm(n)
				if !m.down {
					m.armed = max(n, 0)
				}
			case x < 19:
				fates := randomFates(r, blocks)
				d.Wake(fates)
				m.wake(fates)
			case len(ds) < 4:
				ds, ms = append(ds, d.Copy()), append(ms, m.copy())
			}
			for k := range ds {
				same(t, ds[k], ms[k])
			}
		}
	}
}
