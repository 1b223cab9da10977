package device

import (
	"bytes"
	"math"
	"slices"
	"testing"

	"moraine/api"
)

// model is a rack told over again in the plainest way: a list of what is cached, a list of what lasts.
type model struct {
	disks, sectors int
	off            bool
	power          int
	doom           []int
	failed         []bool
	cached         []written
	lasting        []written
}

// written is a sector with bytes.
type written struct {
	api.Spot
	b []byte
}

// newModel is a model of a new rack.
func newModel(disks, sectors int) *model {
	m := &model{disks: disks, sectors: sectors, power: -1, failed: make([]bool, disks)}
	for range disks {
		m.doom = append(m.doom, -1)
	}
	return m
}

// of: what a list tells of a sector, and whether it does.
func of(list []written, s api.Spot) ([]byte, bool) {
	for _, w := range list {
		if w.Spot == s {
			return w.b, true
		}
	}
	return nil, false
}

// with: the list with these bytes for a sector.
func with(list []written, s api.Spot, b []byte) []written {
	return append(without(list, func(w written) bool { return w.Spot == s }), written{s, bytes.Clone(b)})
}

// without: the list without those of which it is so.
func without(list []written, is func(w written) bool) []written {
	var out []written
	for _, w := range list {
		if !is(w) {
			out = append(out, w)
		}
	}
	return out
}

func (m *model) has(disk, sector int) bool {
	return disk >= 0 && disk < m.disks && sector >= 0 && sector < m.sectors
}

func (m *model) lasts(s api.Spot) []byte {
	if b, ok := of(m.lasting, s); ok {
		return b
	}
	return make([]byte, api.SectorSize)
}

func (m *model) read(disk, sector int) ([]byte, api.Errno) {
	switch {
	case m.off:
		return nil, api.ErrDead
	case !m.has(disk, sector):
		return nil, api.ErrSector
	case m.failed[disk]:
		return nil, api.ErrFailed
	}
	if b, ok := of(m.cached, api.Spot{Disk: disk, Sector: sector}); ok {
		return b, api.OK
	}
	return m.lasts(api.Spot{Disk: disk, Sector: sector}), api.OK
}

// call: the error of a Write or a Flush, counted.
func (m *model) call(disk int) api.Errno {
	if m.power == 0 {
		m.off = true
		return api.ErrDead
	}
	m.power = max(m.power-1, -1)
	for i := range m.disks {
		m.failed[i] = m.failed[i] || m.doom[i] == 0
		m.doom[i] = max(m.doom[i]-1, -1)
	}
	if m.failed[disk] {
		return api.ErrFailed
	}
	return api.OK
}

func (m *model) write(disk, sector int, b []byte) api.Errno {
	if m.off {
		return api.ErrDead
	}
	if !m.has(disk, sector) || len(b) != api.SectorSize {
		return api.ErrSector
	}
	err := m.call(disk)
	if err == api.OK {
		m.cached = with(m.cached, api.Spot{Disk: disk, Sector: sector}, b)
	}
	return err
}

func (m *model) flush(disk int) api.Errno {
	if m.off {
		return api.ErrDead
	}
	if !m.has(disk, 0) {
		return api.ErrSector
	}
	err := m.call(disk)
	if err == api.OK {
		ofDisk := func(w written) bool { return w.Disk == disk }
		for _, w := range m.cached {
			if ofDisk(w) {
				m.lasting = with(m.lasting, w.Spot, w.b)
			}
		}
		m.cached = without(m.cached, ofDisk)
	}
	return err
}

func (m *model) restore(keeps []int) {
	m.off, m.power = false, -1
	slices.SortFunc(m.cached, func(a, b written) int {
		return (a.Disk-b.Disk)*m.sectors + a.Sector - b.Sector
	})
	for i, w := range m.cached {
		if len(keeps) > 0 && keeps[i%len(keeps)]&1 == 1 && !m.failed[w.Disk] {
			m.lasting = with(m.lasting, w.Spot, w.b)
		}
	}
	m.cached = nil
}

func (m *model) load(disk int, image []byte) api.Errno {
	if !m.has(disk, 0) {
		return api.ErrSector
	}
	ofDisk := func(w written) bool { return w.Disk == disk }
	m.cached, m.lasting = without(m.cached, ofDisk), without(m.lasting, ofDisk)
	for sector := range m.sectors {
		b := make([]byte, api.SectorSize)
		copy(b, image[min(sector*api.SectorSize, len(image)):])
		m.lasting = with(m.lasting, api.Spot{Disk: disk, Sector: sector}, b)
	}
	return api.OK
}

// walk chooses numbers by a fixed rule.
type walk struct{ state uint64 }

// below: a number below n.
func (w *walk) below(n int) int {
	w.state = w.state*6364136223846793005 + 1442695040888963407
	return int(w.state>>33) % n
}

// near: mostly a number from 0 to n, else one that is far from it.
func (w *walk) near(n int) int {
	if w.below(12) > 0 {
		return w.below(n + 1)
	}
	return []int{-1, math.MinInt, math.MaxInt, 1 << 58, -n}[w.below(5)]
}

// bytes: so many bytes, all alike.
func (w *walk) bytes(n int) []byte {
	return bytes.Repeat([]byte{byte(w.below(255) + 1)}, n)
}

// numbers: up to four numbers.
func (w *walk) numbers() []int {
	var out []int
	for range w.below(5) {
		out = append(out, w.below(9)-4)
	}
	return out
}

// step does one call on both, and tells whether their answers are alike.
func (w *walk) step(r *Rack, m *model) bool {
	disk, sector := w.near(m.disks), w.near(m.sectors)
	switch w.below(20) {
	case 0:
		calls := w.near(12)
		r.Arm(calls)
		m.power = max(calls, -1)
	case 1:
		calls := w.near(40)
		if m.has(disk, 0) {
			m.doom[disk] = max(calls, -1)
		}
		return r.Doom(disk, calls) == api.OK == m.has(disk, 0)
	case 2:
		keeps := w.numbers()
		r.Restore(keeps)
		m.restore(keeps)
	case 3:
		image := w.bytes(w.below((m.sectors + 1) * api.SectorSize))
		return r.Load(disk, image) == m.load(disk, image)
	case 4, 5, 6:
		return r.Flush(disk) == m.flush(disk)
	case 7:
		b := w.bytes(w.below(200))
		return r.Write(disk, sector, b) == m.write(disk, sector, b)
	case 8, 9, 10:
		b, err := r.Read(disk, sector)
		want, wantErr := m.read(disk, sector)
		return err == wantErr && bytes.Equal(b, want)
	default:
		b := w.bytes(api.SectorSize)
		return r.Write(disk, sector, b) == m.write(disk, sector, b)
	}
	return true
}

// alike: are all that can be seen of both alike?
func alike(r *Rack, m *model) bool {
	if r.Off() != m.off {
		return false
	}
	for disk := range m.disks {
		if r.Failed(disk) != m.failed[disk] {
			return false
		}
		for sector := range m.sectors {
			b, err := r.Read(disk, sector)
			want, wantErr := m.read(disk, sector)
			if err != wantErr || !bytes.Equal(b, want) {
				return false
			}
			b, err = r.Lasting(disk, sector)
			if err != api.OK || !bytes.Equal(b, m.lasts(api.Spot{Disk: disk, Sector: sector})) {
				return false
			}
		}
	}
	return true
}

// Many calls in many orders: a rack answers what the model does.
func TestWalks(t *testing.T) {
	for seed := range 300 {
		w := &walk{state: uint64(seed)}
		disks, sectors := w.below(4)+1, w.below(4)+1
		r, m := rack(t, disks, sectors), newModel(disks, sectors)
		for i := range 150 {
			if !w.step(r, m) || !alike(r, m) {
				t.Fatalf("walk %d, step %d: the rack isn't as the model is", seed, i)
			}
		}
	}
}

// The same calls on two racks are answered alike.
func TestTwoRacksAlike(t *testing.T) {
	for seed := range 20 {
		one, other := &walk{state: uint64(seed)}, &walk{state: uint64(seed)}
		a, b := rack(t, 3, 4), rack(t, 3, 4)
		for i := range 200 {
			one.step(a, newModel(3, 4))
			other.step(b, newModel(3, 4))
			for disk := range 3 {
				for sector := range 4 {
					x, errX := a.Read(disk, sector)
					y, errY := b.Read(disk, sector)
					if errX != errY || !bytes.Equal(x, y) {
						t.Fatalf("walk %d, step %d: two racks aren't alike", seed, i)
					}
				}
			}
		}
	}
}
