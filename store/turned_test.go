package store

import (
	"testing"

	"moraine/api"
	"moraine/device"
	"moraine/tree"
)

// works: whatever a rack has, a mount ends, with ErrCorrupt, or with ErrIO; or with a right tree that lasts, beside which another one can be laid. What it answered is answered.
func works(t *testing.T, r *device.Rack) api.Errno {
	t.Helper()
	s, err := Mount(r)
	if err == api.ErrCorrupt || err == api.ErrIO {
		return err
	}
	is(t, "Mount", err, api.OK)
	x, err := s.Tree()
	if err != api.OK || !tree.Right(x) || !s.Room() {
		t.Fatalf("Tree: %v, %v", short(x), err)
	}
	hasRoom(t, s)
	again(t, r)
	s = mounts(t, r)
	holds(t, s, x)
	y := filled(t, 4, 5)
	lays(t, s, y)
	holds(t, s, y)
	again(t, r)
	holds(t, mounts(t, r), y)
	return api.OK
}

// turn turns a byte of a sector of a disk.
func turn(t *testing.T, r *device.Rack, disk, sector, at int, by byte) {
	t.Helper()
	b := gets(t, r, disk, sector)
	b[at] ^= by
	puts(t, r, disk, sector, b)
}

// Each byte of a mounted array's disks is turned, one at a time.
func TestMountOfATurnedByte(t *testing.T) {
	for _, by := range []byte{1, 0x80, 0xFF} {
		for disk := range 5 {
			for _, sector := range []int{0, 2, 3, 11, 12, 13, 14, 33, 34, 35, 36} {
				for at := range 64 {
					if sector < 5 && at > 12 || sector > 5 && at > 24 && at%5 > 0 {
						continue
					}
					r := madeOf(t, small(), some(t, 6)).rack()
					turn(t, r, disk, sector, at, by)
					works(t, r)
				}
			}
		}
	}
}

// Many bytes are turned, of the blocks of the list most of them, and some disk is absent.
func TestMountOfManyTurnedBytes(t *testing.T) {
	w := &walk{state: 3, seen: make(map[string]int)}
	for range 3000 {
		x := madeOf(t, small(), []api.Tree{some(t, 6), filled(t, 7, 12)}[w.below(2)])
		x.build()
		x.mark = 0
		for range w.one(0, 1, 1, 2, 5) {
			// A block of the list says something else, here and there another one of its addresses.
			b := x.blocks[x.more[w.below(len(x.more))]].Data
			b[w.below(56)] = byte(w.one(0, 1, 2, w.below(81), w.below(256)))
		}
		r := x.rack()
		for range w.one(0, 0, 1, 6) {
			turn(t, r, w.below(5), w.one(0, 1, 3, 4, 5+w.below(32)), w.one(w.below(8), w.below(64)), byte(1+w.below(255)))
		}
		if w.below(2) == 0 {
			lose(t, r, w.below(5))
		}
		w.saw("Mount", works(t, r))
	}
	if w.seen["Mount error "] < 300 || w.seen["Mount error 15"] < 300 {
		t.Error(w.seen)
	}
}
