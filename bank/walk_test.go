package bank

import (
	"bytes"
	"slices"
	"testing"

	"moraine/api"
	"moraine/device"
)

// twin is the same calls told over again in the plainest way, on a rack of its own.
type twin struct {
	rack   *device.Rack
	member api.Member
}

func (w *twin) read(slot, sector int) ([]byte, api.Errno) {
	if slot < 0 || slot > 3 {
		return nil, api.ErrSector
	}
	return w.rack.Read(diskOf(slot, w.member), sector)
}

func (w *twin) write(slot, sector int, data []byte) api.Errno {
	if slot < 0 || slot > 3 {
		return api.ErrSector
	}
	return w.rack.Write(diskOf(slot, w.member), sector, data)
}

// each does a call on all disks in order, till one answers ErrDead: then that; else the first answer of these that one has; else OK.
func (w *twin) each(do func(disk int) api.Errno, first api.Errno) api.Errno {
	out := api.OK
	for _, disk := range inOrder(w.member) {
		err := do(disk)
		if err == api.ErrDead {
			return err
		}
		if err == first {
			out = err
		}
	}
	return out
}

func (w *twin) flush() api.Errno {
	return w.each(w.rack.Flush, api.OK)
}

func (w *twin) everywhere(sector int, data []byte) api.Errno {
	return w.each(func(disk int) api.Errno { return w.rack.Write(disk, sector, data) }, api.ErrSector)
}

// walk chooses numbers by a fixed rule.
type walk struct{ state uint64 }

// below: a number below n.
func (w *walk) below(n int) int {
	w.state = w.state*6364136223846793005 + 1442695040888963407
	return int(w.state>>33) % n
}

// sector: mostly one that is there.
func (w *walk) sector() int {
	return []int{0, 1, 2, 36, 1, 2, 37, -1}[w.below(8)]
}

// data: mostly a sector's bytes.
func (w *walk) data() []byte {
	n := api.SectorSize
	if w.below(9) == 0 {
		n += w.below(3) - 1
	}
	return bytes.Repeat([]byte{byte(w.below(256))}, n)
}

// onBoth does something with the racks themselves.
func (w *walk) onBoth(racks ...*device.Rack) {
	what, n, m := w.below(3), w.below(12), w.below(5)
	for _, r := range racks {
		switch what {
		case 0:
			r.Arm(n)
		case 1:
			r.Doom(m, n)
		case 2:
			r.Restore([]int{n, m})
		}
	}
}

// step does one call on both, and tells whether their answers are alike.
func (w *walk) step(b *Bank, r *device.Rack, o *twin) bool {
	slot, sector, data := w.below(6)-1, w.sector(), w.data()
	switch w.below(12) {
	case 0:
		w.onBoth(r, o.rack)
	case 1:
		m := api.Member{Epoch: w.below(5), Slot: w.below(4), State: w.below(3)}
		b.Join(m)
		o.member = m
	case 2:
		b.Join(api.Member{Epoch: 9, Slot: 4, State: 1 + w.below(3)})
	case 3, 4:
		return b.Flush() == o.flush()
	case 5, 6:
		return b.Everywhere(sector, data) == o.everywhere(sector, data)
	case 7, 8:
		got, err := b.Read(slot, sector)
		want, wantErr := o.read(slot, sector)
		return err == wantErr && bytes.Equal(got, want)
	default:
		return b.Write(slot, sector, data) == o.write(slot, sector, data)
	}
	return true
}

// alike: are all that can be seen of both alike?
func alike(b *Bank, r *device.Rack, o *twin) bool {
	if b.Off() != o.rack.Off() || b.SpareFailed() != o.rack.Failed(4) || b.Member() != o.member || b.Geo() != small() {
		return false
	}
	for _, sector := range []int{0, 1, 2, 36} {
		var all [][]byte
		for _, disk := range inOrder(o.member) {
			if data, err := o.rack.Read(disk, sector); err == api.OK {
				all = append(all, data)
			}
		}
		if !slices.EqualFunc(b.All(sector), all, bytes.Equal) {
			return false
		}
		for disk := range 5 {
			got, err := r.Read(disk, sector)
			want, wantErr := o.rack.Read(disk, sector)
			last, _ := r.Lasting(disk, sector)
			wantLast, _ := o.rack.Lasting(disk, sector)
			if err != wantErr || !bytes.Equal(got, want) || !bytes.Equal(last, wantLast) {
				return false
			}
		}
	}
	return true
}

// Many calls in many orders on one rack: a bank does and answers what the plainest way does.
func TestWalks(t *testing.T) {
	for seed := range 300 {
		w := &walk{state: uint64(seed)}
		b, r := open(t, api.Member{})
		o := &twin{rack: rack(t, 5, smallSectors)}
		for i := range 120 {
			if !w.step(b, r, o) || !alike(b, r, o) {
				t.Fatalf("walk %d, step %d: the bank isn't as the plainest way is", seed, i)
			}
		}
	}
}
