package scan

import (
	"slices"
	"testing"

	"moraine/api"
	"moraine/stripe"
)

// Without power, whatever there is; arming alone takes none, and to look counts nothing.
func TestLookWithoutPower(t *testing.T) {
	for _, m := range members(small()) {
		a := open(t, small(), m)
		want := a.lays(t, 3, 9, alone(16))
		a.r.Arm(0)
		for range 3 {
			a.looks(t, 9, want)
		}
		a.cutOff(t)
		a.isDead(t)
		a.r.Restore([]int{1})
		a.looks(t, 9, want)
		a.cutOff(t)
		a.isDead(t)
		a.r.Restore(nil)
		a.looks(t, 9, want)
	}
	a := open(t, small(), unused())
	a.cutOff(t)
	a.isDead(t)
	a = open(t, small(), unused())
	a.lose(t, 0, 1, 2, 3, 4)
	a.looks(t, 0)
	a.cutOff(t)
	a.isDead(t)
}

// Disks that were never written, also where some have failed.
func TestLookAtNothing(t *testing.T) {
	for _, g := range geometries() {
		for _, m := range members(g) {
			a := open(t, g, m)
			a.looks(t, 0)
			a.lose(t, 1)
			a.looks(t, 0)
		}
	}
	for _, lost := range sets() {
		a := open(t, small(), unused())
		a.lose(t, lost...)
		a.looks(t, 0)
	}
}

// Each segment, one alone; and all of them, their Seqs rising and falling with Seg, then written once more.
func TestLookAtEachSegment(t *testing.T) {
	for _, g := range geometries() {
		for seg := range g.Segs {
			a := open(t, g, unused())
			a.looks(t, 100+seg, a.lays(t, seg, 100+seg, alone(1+seg%places(g))))
		}
		for _, down := range []bool{false, true} {
			a := open(t, g, unused())
			for _, base := range []int{1000, 2000} {
				list := make([]api.Info, g.Segs)
				for i := range g.Segs {
					seg := i
					if down {
						seg = g.Segs - 1 - i
					}
					s := api.Summary{Count: g.Segs, Index: i, Blocks: i % (places(g) + 1)}
					if i == g.Segs-1 {
						s.Root = g.Segs * places(g)
					}
					list[seg] = a.lays(t, seg, base+i, s)
				}
				a.looks(t, base+g.Segs-1, list...)
			}
		}
	}
}

// Written twice, with a greater and with a smaller Seq: what was written last is there, and no more of the other one.
func TestLookAtASegmentWrittenTwice(t *testing.T) {
	for _, seqs := range [][2]int{{5, 6}, {6, 5}, {5, 5}, {1, 1<<32 - 1}, {1<<32 - 1, 1}} {
		a := open(t, small(), unused())
		a.looks(t, seqs[0], a.lays(t, 8, seqs[0], api.Summary{Count: 2, Blocks: 3}))
		a.looks(t, seqs[1], a.lays(t, 8, seqs[1], alone(80)))
	}
}

// Seqs in no order; a segment without a summary between two others, and with the greatest Seq.
func TestLookAtSeqsInNoOrder(t *testing.T) {
	a := open(t, small(), unused())
	x := a.lays(t, 14, 3, alone(1))
	y := a.lays(t, 2, 40, alone(2))
	z := a.lays(t, 7, 12, api.Summary{Count: 16, Index: 3, Blocks: 5})
	a.looks(t, 40, y, z, x)
	a.writes(t, 5, 39, api.Block{})
	a.looks(t, 40, y, z, x)
	a.writes(t, 5, 41, api.Block{})
	a.looks(t, 41, y, z, x)
	a.writes(t, 2, 4, api.Block{Owner: 65535})
	a.looks(t, 41, z, x)
}

// One sector of a segment, whichever, has another Seq: it isn't whole, unless the slot is bad.
func TestLookAtOneThatIsNotWhole(t *testing.T) {
	for _, m := range members(small()) {
		for place := range 8 {
			for _, seq := range []int{0, 8, 10, 9 + 1<<24} {
				a := open(t, small(), m)
				other := a.lays(t, 1, 2, alone(3))
				want := a.lays(t, 6, 9, alone(4))
				slot, n := place%4, sectorOf(small(), 6, place/4)
				data := a.gets(t, a.disk(slot), n)
				a.puts(t, a.disk(slot), n, slices.Concat(raw(seq, api.Block{})[:4], data[4:]))
				if a.bad(slot) {
					a.looks(t, max(9, seq), other, want)
				} else {
					a.looks(t, max(9, seq), other)
				}
			}
		}
	}
}

// A segment without Seq is none, whatever its block 0.
func TestLookAtSeqNought(t *testing.T) {
	a := open(t, small(), unused())
	first := raw(0, plain(alone(1)))
	a.puts(t, slotOf(small(), 6, 0, 0), sectorOf(small(), 6, 0), first)
	a.puts(t, slotOf(small(), 6, 0, 3), sectorOf(small(), 6, 0), first)
	a.looks(t, 0)
}

// Whole segments whose block 0 isn't a summary that is right: but each one's Seq counts.
func TestLookAtNoSummary(t *testing.T) {
	var list []api.Block
	for _, s := range []api.Summary{{}, alone(0), alone(81), {Count: 17}, {Count: 3, Index: 3}, {Count: 3, Index: 2}, {Count: 3, Index: 1, Root: 1}, {Count: 3, Index: 1, Blocks: 6}, {Count: 65535}} {
		list = append(list, plain(s))
	}
	for at := range 56 {
		b := plain(alone(1))
		if b.Data[at]++; at != 8 && at != 6 {
			list = append(list, b)
		}
	}
	list = append(list, api.Block{}, api.Block{Owner: 65534, Data: plain(alone(1)).Data}, api.Block{Owner: 65535, Index: 1, Data: plain(alone(1)).Data}, api.Block{Index: 65535, Data: plain(alone(1)).Data})
	for i, b := range list {
		a := open(t, small(), unused())
		before, behind := a.lays(t, 5, 1, alone(2)), a.lays(t, 7, 2, alone(3))
		a.writes(t, 6, 9+i, b)
		a.looks(t, 9+i, before, behind)
		a.looks(t, 4, before, a.lays(t, 6, 4, alone(1)), behind)
	}
}

// A summary in another block than 0, or in the parity, is none of the segment's.
func TestLookAtASummaryElsewhere(t *testing.T) {
	for k := 1; k < 6; k++ {
		a := open(t, small(), unused())
		blocks := make([]api.Block, 6)
		blocks[k] = plain(alone(1))
		is(t, "stripe.Write", stripe.Write(a.b, 6, 9, blocks), api.OK)
		a.looks(t, 9)
	}
	// The blocks 1 and 2 are noughts: so the parity is as block 0.
	a := open(t, small(), unused())
	is(t, "stripe.Write", stripe.Write(a.b, 6, 9, []api.Block{plain(alone(1))}), api.OK)
	at, n := slotOf(small(), 6, 0, 0), sectorOf(small(), 6, 0)
	a.puts(t, at, n, raw(9, api.Block{}))
	a.looks(t, 9)
}

// The slot of block 0 is bad: block 0 is told by all others of its row; or by the spare that is joining, if that has its Seq.
func TestLookAtABlockThatIsRestored(t *testing.T) {
	g := small()
	for seg := range g.Segs {
		slot, n := slotOf(g, seg, 0, 0), sectorOf(g, seg, 0)
		a := open(t, g, unused())
		want := a.lays(t, seg, 9, alone(1+seg))
		a.lose(t, slot)
		a.looks(t, 9, want)
		// While it joins, what its sector has of another Seq tells no block, though it may tell the greatest Seq.
		a = open(t, g, api.Member{Slot: slot, State: api.Joining})
		want = a.lays(t, seg, 9, alone(1+seg))
		for _, seq := range []int{0, 8, 10} {
			a.puts(t, 4, n, raw(seq, plain(alone(77))))
			a.looks(t, max(9, seq), want)
		}
		// Of this Seq, it is read: be it another summary, or none.
		a.puts(t, 4, n, raw(9, plain(alone(77))))
		a.looks(t, 9, api.Info{Seg: seg, Seq: 9, Summary: alone(77)})
		a.puts(t, 4, n, raw(9, plain(alone(81))))
		a.looks(t, 9)
		a.puts(t, 4, n, raw(9, plain(alone(1+seg))))
		a.looks(t, 9, want)
	}
}

// What the power's going leaves of a writing is no segment, of neither Seq; its greatest Seq is seen.
func TestLookAtATornSegment(t *testing.T) {
	for _, flushed := range []bool{false, true} {
		for calls := range 9 {
			a := open(t, small(), unused())
			other := a.lays(t, 3, 5, alone(8))
			old := a.lays(t, 6, 9, alone(1))
			if flushed {
				is(t, "Flush", a.b.Flush(), api.OK)
			}
			a.r.Arm(calls)
			stripe.Write(a.b, 6, 20, []api.Block{plain(alone(2))})
			a.r.Restore([]int{1})
			switch calls {
			case 0:
				a.looks(t, 9, other, old)
			case 8:
				a.looks(t, 20, other, api.Info{Seg: 6, Seq: 20, Summary: alone(2)})
			default:
				a.looks(t, 20, other)
			}
		}
	}
	// All of it was cached, and nothing of it lasts; or all but one sector does.
	a := open(t, small(), unused())
	old := a.lays(t, 6, 9, alone(1))
	is(t, "Flush", a.b.Flush(), api.OK)
	a.lays(t, 6, 20, alone(2))
	a.cutOff(t)
	a.r.Restore(nil)
	a.looks(t, 9, old)
	for lost := range 8 {
		a.lays(t, 6, 20, alone(2))
		keeps := []int{1, 1, 1, 1, 1, 1, 1, 1}
		keeps[lost] = 0
		a.cutOff(t)
		a.r.Restore(keeps)
		a.looks(t, 20)
		a.lays(t, 6, 9, alone(1))
		is(t, "Flush", a.b.Flush(), api.OK)
		a.looks(t, 9, old)
	}
}

// With each member, and each set of disks failed: one bad slot takes nothing away, two take all infos; the greatest Seq is what the others tell.
func TestLookWithDisksLost(t *testing.T) {
	for _, m := range members(small()) {
		for _, lost := range sets() {
			a := open(t, small(), m)
			x, y := a.lays(t, 2, 8, alone(3)), a.lays(t, 9, 7, api.Summary{Count: 2})
			a.lose(t, lost...)
			most, left := 8, 0
			for slot := range 4 {
				if !a.r.Failed(a.disk(slot)) {
					left++
				}
			}
			if left == 0 {
				most = 0
			}
			if a.badOnes() > 1 {
				a.looks(t, most)
			} else {
				a.looks(t, most, x, y)
			}
		}
	}
}

// A disk fails, the segment is written without it, and comes to be read so.
func TestLookAtWhatWasWrittenWithoutADisk(t *testing.T) {
	for disk := range 4 {
		a := open(t, small(), unused())
		old := a.lays(t, 5, 3, alone(1))
		a.lose(t, disk)
		a.looks(t, 4, old, a.lays(t, 6, 4, alone(2)))
		a.looks(t, 5, a.lays(t, 5, 5, alone(3)), api.Info{Seg: 6, Seq: 4, Summary: alone(2)})
	}
}

// The spare joins: while it does, the segment is whole without it; behind that it must have it all.
func TestLookWhileTheSpareJoins(t *testing.T) {
	for slot := range 4 {
		a := open(t, small(), unused())
		want := a.lays(t, 5, 3, alone(1))
		a.lose(t, slot)
		a.looks(t, 3, want)
		a.m = api.Member{Epoch: 1, Slot: slot, State: api.Joining}
		a.b.Join(a.m)
		a.looks(t, 3, want)
		a.m.State = api.Joined
		a.b.Join(a.m)
		a.looks(t, 3)
		is(t, "Refill", stripe.Refill(a.b, 5, slot, 3), api.OK)
		a.looks(t, 3, want)
		a.m.State = api.Joining
		a.b.Join(a.m)
		a.looks(t, 3, want)
		a.lose(t, (slot+1)%4)
		a.looks(t, 3)
		a.m.State = api.Joined
		a.b.Join(a.m)
		a.looks(t, 3, want)
	}
}

// One sector alone tells the greatest Seq, wherever it is: of the segments' ones on a disk of a slot, or on the spare that stands for none.
func TestGreatestOnOneDiskAlone(t *testing.T) {
	for _, m := range members(small()) {
		for disk := range 5 {
			for n := range 5 + 32 {
				a := open(t, small(), m)
				want := a.lays(t, 6, 9, alone(1))
				a.puts(t, disk, n, raw(1<<32-1, api.Block{Owner: 1}))
				most := 1<<32 - 1
				if n < 5 || m.State != api.Unused && disk == m.Slot {
					most = 9
				}
				torn := (n == sectorOf(small(), 6, 0) || n == sectorOf(small(), 6, 1)) && disk < 5
				if replaced := m.State != api.Unused && disk == m.Slot; replaced || disk == 4 && m.State != api.Joined {
					torn = false
				}
				if torn {
					a.looks(t, most)
				} else {
					a.looks(t, most, want)
				}
				a.lose(t, disk)
				a.sees(t, 9)
			}
		}
	}
}

// sees holds the greatest Seq that Look tells against one.
func (a *array) sees(t *testing.T, most int) {
	t.Helper()
	if _, n, err := Look(a.b); err != api.OK || n != most {
		t.Errorf("%v: Look: the greatest Seq is %d, %v, not %d", a.m, n, err, most)
	}
}

// Of the sectors ahead of the segments none counts, whatever is there.
func TestGreatestPassesOverTheReservedSectors(t *testing.T) {
	for _, g := range geometries() {
		a := open(t, g, unused())
		for disk := range g.Disks + 1 {
			for n := range 5 {
				a.puts(t, disk, n, raw(77, plain(alone(1))))
			}
		}
		a.looks(t, 0)
		a.puts(t, g.Disks, 5, raw(3, api.Block{}))
		a.looks(t, 3)
		a.puts(t, g.Disks-1, 4+g.Segs*g.Rows, raw(4, api.Block{}))
		a.looks(t, 4)
	}
}

// Seqs of all four bytes, the greatest one told in whichever order they stand.
func TestGreatestOfManySeqs(t *testing.T) {
	seqs := []int{1, 255, 256, 65535, 65536, 1<<24 - 1, 1 << 24, 1 << 30, 1<<31 - 1, 1 << 31, 1<<32 - 2, 1<<32 - 1}
	for turn := range len(seqs) {
		a := open(t, small(), unused())
		most := 0
		for i := range seqs {
			seq := seqs[(i+turn)%len(seqs)]
			a.puts(t, i%5, 5+31*i%32, raw(seq, api.Block{Owner: 65535, Index: 65535}))
			most = max(most, seq)
			a.sees(t, most)
		}
	}
}
