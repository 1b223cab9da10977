package store

import (
	"testing"

	"moraine/api"
	"moraine/device"
)

// keeps are ways in which the power's going leaves what isn't flushed: nothing, all, each second one, and others.
func keeps() [][]int {
	return [][]int{nil, {1}, {1, 0}, {0, 1}, {0, 0, 1}, {1, 1, 0}, {1, 0, 0, 0, 0, 1, 1}, {0, 1, 1, 1, 1, 1, 1, 1, 1, 1, 1}, {1, 0, 0, 0, 0, 0, 0, 0, 0, 0, 0, 0, 0}}
}

// crash is the power's going behind some calls, with what is kept; and the failure of a disk ahead of the call that it interrupts, behind some more calls, or behind all of them.
type crash struct {
	calls int
	keeps []int
	// disk is the one that fails; below 0, none does.
	disk, when int
}

// When a disk fails.
const (
	isAhead = iota
	isMeanwhile
	isBehind
)

// crashes are all kinds of a crash behind so many calls.
func crashes(g api.Geometry, calls int) []crash {
	var list []crash
	for i, k := range keeps() {
		list = append(list, crash{calls, k, -1, isAhead})
		for disk := range g.Disks + 1 {
			list = append(list, crash{calls, k, disk, (i + disk + calls) % 3})
		}
	}
	return list
}

// strikes does something with the power to go, and restores it; it tells whether the power went.
func (c crash) strikes(t *testing.T, r *device.Rack, do func() api.Errno) bool {
	t.Helper()
	switch {
	case c.disk < 0:
	case c.when == isAhead:
		lose(t, r, c.disk)
	case c.when == isMeanwhile:
		is(t, "Doom", r.Doom(c.disk, c.calls/2), api.OK)
	}
	r.Arm(c.calls)
	err := do()
	if err != api.OK && err != api.ErrDead {
		t.Errorf("%v: %v", c, err)
	}
	if err == api.OK {
		r.Arm(0)
	}
	is(t, "Flush", r.Flush(0), api.ErrDead)
	r.Restore(c.keeps)
	if c.disk >= 0 && !r.Failed(c.disk) {
		lose(t, r, c.disk)
	}
	return err == api.ErrDead
}

// The power goes at each call of a Lay, whatever is kept and whichever disk fails: the tree that lasted is found, or the one that was laid; and it lasts from then on.
func TestPowerGoesInALay(t *testing.T) {
	for _, g := range []api.Geometry{small(), {Disks: 3, Rows: 3, Segs: 12}} {
		old, made := some(t, 3), some(t, 4)
		for calls, went := 0, true; went; calls++ {
			went = false
			for _, c := range crashes(g, calls) {
				s, r := stored(t, g, old)
				is(t, "Put", s.Put(made), api.OK)
				torn := c.strikes(t, r, s.Lay)
				went = went || torn
				found := finds(t, c, r, old, made)
				if !torn && sameTree(found, old) {
					t.Errorf("%v: what was laid is gone", c)
				}
				stays(t, c, r, g, found)
			}
		}
	}
}

// finds: Mount finds one of two trees.
func finds(t *testing.T, c crash, r *device.Rack, a, b api.Tree) api.Tree {
	t.Helper()
	s := mounts(t, r)
	hasRoom(t, s)
	found, err := s.Tree()
	if err != api.OK || !sameTree(found, a) && !sameTree(found, b) {
		t.Fatalf("%v: %v, %v: another tree", c, found, err)
	}
	return found
}

// stays: what was found is there behind each further mount, also if a disk fails only now.
func stays(t *testing.T, c crash, r *device.Rack, g api.Geometry, found api.Tree) {
	t.Helper()
	again(t, r)
	if c.disk < 0 {
		lose(t, r, (c.calls+len(c.keeps))%(g.Disks+1))
	}
	s := mounts(t, r)
	holds(t, s, found)
	hasRoom(t, s)
}

// The power goes at each call of a Mark: the tree that was laid is found.
func TestPowerGoesInAMark(t *testing.T) {
	old, made := some(t, 3), some(t, 4)
	for calls, went := 0, true; went; calls++ {
		went = false
		for _, c := range crashes(small(), calls) {
			s, r := stored(t, small(), old)
			lays(t, s, made)
			torn := c.strikes(t, r, s.Mark)
			went = went || torn
			stays(t, c, r, small(), finds(t, c, r, made, made))
		}
	}
}

// The power goes at each call of a mount, behind a Lay that was torn: the mount ahead of it, and each one behind it, finds one of both trees; and one mount that ends well finds the same as all behind it.
func TestPowerGoesInAMount(t *testing.T) {
	old, made := some(t, 3), some(t, 4)
	for _, first := range []int{3, 19, 36} {
		for calls, went := 0, true; went; calls++ {
			went = false
			for _, c := range crashes(small(), calls) {
				s, r := stored(t, small(), old)
				is(t, "Put", s.Put(made), api.OK)
				crash{first, []int{1, 1, 0, 1, 1}, -1, 0}.strikes(t, r, s.Lay)
				torn := c.strikes(t, r, func() api.Errno {
					_, err := Mount(r)
					return err
				})
				went = went || torn
				stays(t, c, r, small(), finds(t, c, r, old, made))
			}
		}
	}
}

// The power goes at each call of a Format of disks without anything: Mount finds nothing, or the root alone; if it does, all is as if that had been formatted in peace, also if any disk fails then.
func TestPowerGoesInAFormat(t *testing.T) {
	found := make(map[api.Errno]int)
	for calls, went := 0, true; went; calls++ {
		went = false
		for _, c := range crashes(small(), calls) {
			r := newRack(t, small())
			torn := c.strikes(t, r, func() api.Errno {
				_, err := Format(r, small())
				return err
			})
			went = went || torn
			s, err := Mount(r)
			found[err]++
			if err == api.ErrCorrupt && torn {
				continue
			}
			is(t, "Mount", err, api.OK)
			holds(t, s, alone())
			x := some(t, 7)
			lays(t, s, x)
			stays(t, c, r, small(), x)
		}
	}
	if found[api.OK] < 100 || found[api.ErrCorrupt] < 100 {
		t.Error(found)
	}
}

// All that one disk alone has of a torn Format's super is enough; and what is laid then is there, whichever disk fails.
func TestPowerGoesInAFormatAndOneDiskHasTheSuper(t *testing.T) {
	for has := range 5 {
		for lost := range 5 {
			r := newRack(t, small())
			formats(t, r, small())
			for disk := range 5 {
				for _, sector := range []int{0, 3, 4} {
					if disk != has {
						puts(t, r, disk, sector, make([]byte, 64))
					}
				}
			}
			s := mounts(t, r)
			x := some(t, 7)
			lays(t, s, x)
			again(t, r)
			lose(t, r, lost)
			holds(t, mounts(t, r), x)
		}
	}
}

// Each call of a Lay, a Mark, a Mount is the one that its chapter tells: wherever the power goes, the disks have the same as those of the twin.
func TestEachCallIsAsTold(t *testing.T) {
	for _, g := range []api.Geometry{small(), {Disks: 3, Rows: 1, Segs: 56}, {Disks: 16, Rows: 1, Segs: 12}} {
		for what := range 3 {
			for calls, err := 0, api.ErrDead; err == api.ErrDead; calls++ {
				p := pairOf(t, g)
				p.put(filled(t, 8, 5))
				is(t, "lay", p.lay(), api.OK)
				p.put(filled(t, 7, 5))
				p.both(func(r *device.Rack) { r.Arm(calls) })
				err = []func() api.Errno{p.lay, p.mark, p.mount}[what]()
			}
		}
	}
}

// Each call of a Format is as told, too.
func TestEachCallOfAFormatIsAsTold(t *testing.T) {
	for calls, err := 0, api.ErrDead; err == api.ErrDead; calls++ {
		p := &pair{t: t, r: newRack(t, small()), w: &twin{g: small(), r: newRack(t, small())}}
		p.both(func(r *device.Rack) { r.Arm(calls) })
		p.s, err = Format(p.r, small())
		is(t, "Format", err, p.w.format())
		if (p.s == nil) != (err != api.OK) {
			t.Errorf("Format: %v, and a store: %v", err, p.s != nil)
		}
		p.holdsRack("Format")
	}
}

// A disk fails at each call of a Lay, a Mark, a Mount: what is written elsewhere is as told.
func TestADiskFailsAtEachCall(t *testing.T) {
	for disk := range 5 {
		for what := range 3 {
			for calls := range 60 {
				p := pairOf(t, small())
				p.put(filled(t, 8, 5))
				is(t, "lay", p.lay(), api.OK)
				p.put(filled(t, 7, 5))
				p.both(func(r *device.Rack) { r.Doom(disk, calls) })
				is(t, "a call", []func() api.Errno{p.lay, p.mark, p.mount}[what](), api.OK)
				p.both(func(r *device.Rack) { again(t, r) })
				is(t, "mount", p.mount(), api.OK)
			}
		}
	}
}

// Two disks of slots fail, each at some call of a Lay, a Mark, a Mount: ErrIO; and nothing more can be mounted.
func TestTwoDisksFailAtSomeCalls(t *testing.T) {
	for what := range 3 {
		for first := range 30 {
			for _, second := range []int{0, first, 7, 23} {
				p := pairOf(t, small())
				p.put(filled(t, 8, 5))
				is(t, "lay", p.lay(), api.OK)
				p.put(filled(t, 7, 5))
				p.both(func(r *device.Rack) {
					r.Doom(first%4, first)
					r.Doom((first+1+second%3)%4, second)
				})
				err := []func() api.Errno{p.lay, p.mark, p.mount}[what]()
				// A Mark has few calls: the second disk may have had none left to fail at.
				if p.w.bad() > 1 {
					is(t, "a call", err, api.ErrIO)
					p.both(func(r *device.Rack) { again(t, r) })
					is(t, "mount", p.mount(), api.ErrIO)
				}
			}
		}
	}
}
