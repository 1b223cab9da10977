package stripe

import (
	"math"
	"slices"
	"testing"

	"moraine/api"
)

// counts are numbers of blocks that a segment may be written with: none, one, around a full row, all but one, all.
func counts(g api.Geometry) []int {
	list := []int{0, 1, g.Disks - 2, g.Disks - 1, g.Disks, perSeg(g) - 1, perSeg(g)}
	list = slices.DeleteFunc(list, func(n int) bool { return n > perSeg(g) })
	slices.Sort(list)
	return slices.Compact(list)
}

// Each sector is where it is to be, in each geometry, with each member; all else is as it was, and nothing is flushed.
func TestWriteLaysEachSector(t *testing.T) {
	for _, g := range geometries() {
		list := members(g)
		if g.Disks > 5 {
			list = []api.Member{list[0], list[1], list[len(list)-1]}
		}
		for i, m := range list {
			for _, n := range counts(g) {
				seg := []int{0, 1, g.Segs - 1}[(i+n)%3]
				a := open(t, g, m)
				blocks := some(n, i)
				is(t, "Write", Write(a.b, seg, 258+i, blocks), api.OK)
				a.holdsOnly(t, map[int][][][]byte{seg: imageOf(g, seg, 258+i, blocks)})
			}
		}
	}
}

// The parity goes from slot to slot, segment by segment.
func TestWriteEachSegment(t *testing.T) {
	for _, g := range geometries() {
		a := open(t, g, unused())
		images := make(map[int][][][]byte)
		for seg := range g.Segs {
			blocks := some(perSeg(g), seg)
			is(t, "Write", Write(a.b, seg, seg+1, blocks), api.OK)
			images[seg] = imageOf(g, seg, seg+1, blocks)
		}
		a.holdsOnly(t, images)
	}
}

func TestWriteNumbers(t *testing.T) {
	for _, seq := range []int{1, 2, 255, 256, 1 << 16, 1 << 24, 1 << 30, 1<<30 + 1, 1<<31 - 1, 1 << 31, 1<<32 - 2, 1<<32 - 1} {
		a := open(t, small(), unused())
		is(t, "Write", Write(a.b, 15, seq, some(4, 0)), api.OK)
		a.holdsOnly(t, map[int][][][]byte{15: imageOf(small(), 15, seq, some(4, 0))})
	}
}

func TestWriteNoNumber(t *testing.T) {
	a := open(t, small(), unused())
	a.r.Arm(0)
	for _, seq := range []int{0, -1, 1 << 32, 1<<32 + 1, 1 << 33, -1 << 32, math.MaxInt, math.MinInt} {
		for _, seg := range []int{0, 15, 16, -1} {
			is(t, "Write", Write(a.b, seg, seq, nil), api.ErrRange)
		}
	}
	if a.b.Off() {
		t.Error("something was written")
	}
	a.holdsOnly(t, nil)
}

func TestWriteNoSegment(t *testing.T) {
	for _, g := range geometries() {
		a := open(t, g, unused())
		a.r.Arm(0)
		for _, seg := range noSegs(g) {
			is(t, "Write", Write(a.b, seg, 1, some(1, 0)), api.ErrRange)
		}
		if a.b.Off() {
			t.Error("something was written")
		}
		a.holdsOnly(t, nil)
	}
}

func TestWriteTooManyBlocks(t *testing.T) {
	for _, g := range geometries() {
		a := open(t, g, unused())
		a.r.Arm(0)
		for _, more := range []int{1, 2, g.Disks, 100} {
			is(t, "Write", Write(a.b, 0, 1, make([]api.Block, perSeg(g)+more)), api.ErrRoom)
		}
		if a.b.Off() {
			t.Error("something was written")
		}
		a.holdsOnly(t, nil)
	}
}

// noBlocks are blocks that can't be sectors.
func noBlocks() []api.Block {
	return []api.Block{
		{Data: make([]byte, 57)}, {Data: make([]byte, 64)}, {Data: make([]byte, 1<<20)},
		{Owner: 65536}, {Owner: -1}, {Owner: 1 << 32}, {Owner: math.MaxInt}, {Owner: math.MinInt},
		{Index: 65536}, {Index: -1}, {Index: 1<<32 + 1}, {Index: math.MaxInt}, {Index: math.MinInt},
	}
}

// One block that can't be a sector, at each place, the one behind the last full row among them: nothing is written, of the rows ahead of it neither.
func TestWriteNoBlock(t *testing.T) {
	for _, none := range noBlocks() {
		a := open(t, small(), unused())
		a.r.Arm(0)
		for n := 1; n <= 6; n++ {
			for at := range n {
				blocks := some(n, 1)
				blocks[at] = none
				is(t, "Write", Write(a.b, 3, 1, blocks), api.ErrRoom)
			}
		}
		if a.b.Off() {
			t.Error("something was written")
		}
		a.holdsOnly(t, nil)
	}
}

// Each error comes ahead of those behind it: ErrRange, ErrRoom, ErrIO, ErrDead.
func TestWriteOrderOfErrors(t *testing.T) {
	a := open(t, small(), unused())
	many := make([]api.Block, 7)
	a.lose(t, 0, 2)
	for range 2 {
		is(t, "no segment", Write(a.b, 16, 1, many), api.ErrRange)
		is(t, "no number", Write(a.b, 0, 0, noBlocks()[:1]), api.ErrRange)
		is(t, "too many", Write(a.b, 0, 1, many), api.ErrRoom)
		is(t, "no block", Write(a.b, 0, 1, noBlocks()[:1]), api.ErrRoom)
		is(t, "two bad", Write(a.b, 0, 1, nil), api.ErrIO)
		a.cutOff(t)
	}
	for _, lost := range [][]int{nil, {2}} {
		a := open(t, small(), unused())
		a.lose(t, lost...)
		a.cutOff(t)
		is(t, "no segment", Write(a.b, -1, 1, nil), api.ErrRange)
		is(t, "too many", Write(a.b, 0, 1, many), api.ErrRoom)
		is(t, "without power", Write(a.b, 0, 1, nil), api.ErrDead)
	}
}

// What was there before doesn't shine through: not of more blocks, not of longer ones.
func TestWriteTwice(t *testing.T) {
	for _, m := range members(small()) {
		for n := range 7 {
			a, _ := written(t, m, 9, 44)
			is(t, "Write", Write(a.b, 9, 43, some(n, 2)), api.OK)
			a.holdsOnly(t, map[int][][][]byte{9: imageOf(small(), 9, 43, some(n, 2))})
		}
	}
}

// Segments beside each other, the one in between written last, and written anew.
func TestWriteBesideOthers(t *testing.T) {
	for _, g := range geometries() {
		for _, m := range []api.Member{unused(), {Slot: 1, State: api.Joining}, {Slot: 2, State: api.Joined}} {
			a := open(t, g, m)
			images := make(map[int][][][]byte)
			for i, seg := range []int{4, 6, 5, 5, 7, 4} {
				blocks := some(i%perSeg(g), i)
				is(t, "Write", Write(a.b, seg, i+1, blocks), api.OK)
				images[seg] = imageOf(g, seg, i+1, blocks)
			}
			a.holdsOnly(t, images)
		}
	}
}

// The power goes at each write: those ahead of it are done, by rows, in each the blocks in order and then the parity, and no more.
func TestWriteAsThePowerGoes(t *testing.T) {
	for _, g := range geometries()[:4] {
		for _, m := range members(g) {
			for calls := range g.Rows*g.Disks + 1 {
				a := open(t, g, m)
				old, now := some(perSeg(g), 3), some(perSeg(g)-1, 4)
				is(t, "Write", Write(a.b, 2, 7, old), api.OK)
				a.r.Arm(calls)
				if calls < g.Rows*g.Disks {
					is(t, "Write", Write(a.b, 2, 8, now), api.ErrDead)
				} else {
					is(t, "Write", Write(a.b, 2, 8, now), api.OK)
					is(t, "the next call", a.r.Flush(0), api.ErrDead)
				}
				a.r.Restore([]int{1})
				image, later := imageOf(g, 2, 7, old), imageOf(g, 2, 8, now)
				for i := range calls {
					row, slot := i/g.Disks, slotOf(g, 2, i/g.Disks, i%g.Disks)
					image[row][slot] = later[row][slot]
				}
				a.holds(t, 2, image)
			}
		}
	}
}

// With each set of disks failed: ErrIO and nothing written, if more than one slot is bad; else all that can be is written.
func TestWriteWithSlotsBad(t *testing.T) {
	for _, m := range members(small()) {
		for _, lost := range sets() {
			a := open(t, small(), m)
			a.lose(t, lost...)
			a.r.Arm(8)
			if a.badOnes() > 1 {
				is(t, "Write", Write(a.b, 3, 5, some(5, 0)), api.ErrIO)
				a.holds(t, 3, imageOf(small(), 3, 0, nil))
				is(t, "Flush", a.b.Flush(), api.OK)
				continue
			}
			is(t, "Write", Write(a.b, 3, 5, some(5, 0)), api.OK)
			a.holds(t, 3, imageOf(small(), 3, 5, some(5, 0)))
			is(t, "the next call", Write(a.b, 3, 5, nil), api.ErrDead)
		}
	}
}

// Each two disks fail while it writes, each at each call: the others are written to the end; ErrIO, if then more than one slot is bad.
func TestWriteWhileDisksFail(t *testing.T) {
	for _, m := range members(small()) {
		for first := range 5 {
			for second := range 5 {
				for calls := range 9 {
					for _, later := range []int{0, 1, 4, 8} {
						failing(t, m, first, second, calls, later)
					}
				}
			}
		}
	}
}

// failing writes a segment while two disks fail (or one, if they are the same), each at a call.
func failing(t *testing.T, m api.Member, first, second, calls, later int) {
	t.Helper()
	a := open(t, small(), m)
	ahead := a.badOnes()
	is(t, "Doom", a.r.Doom(first, calls), api.OK)
	is(t, "Doom", a.r.Doom(second, later), api.OK)
	a.r.Arm(8)
	got := Write(a.b, 6, 9, some(6, 1))
	want := api.OK
	if a.badOnes() > 1 {
		want = api.ErrIO
	}
	if got != want || ahead > 1 {
		t.Errorf("%v, disk %d at %d, disk %d at %d: %v, not %v", m, first, calls, second, later, got, want)
	}
	a.holds(t, 6, imageOf(small(), 6, 9, some(6, 1)))
	is(t, "the next call", a.r.Flush(0), api.ErrDead)
}

// Two that fail behind the last write are no matter to it; one call earlier they are.
func TestWriteDisksFailAtItsEnd(t *testing.T) {
	for calls, want := range map[int]api.Errno{7: api.ErrIO, 8: api.OK} {
		a := open(t, small(), unused())
		is(t, "Doom", a.r.Doom(1, calls), api.OK)
		is(t, "Doom", a.r.Doom(3, calls), api.OK)
		is(t, "Write", Write(a.b, 0, 1, nil), want)
	}
}

// ErrDead is answered at once, also if by then two slots are bad.
func TestWritePowerGoesBehindDisks(t *testing.T) {
	a := open(t, small(), unused())
	is(t, "Doom", a.r.Doom(1, 0), api.OK)
	is(t, "Doom", a.r.Doom(3, 2), api.OK)
	a.r.Arm(5)
	is(t, "Write", Write(a.b, 0, 1, nil), api.ErrDead)
	if a.badOnes() != 2 || !a.b.Off() {
		t.Error(a.badOnes())
	}
}
