package stripe

import (
	"bytes"
	"testing"

	"moraine/api"
)

// lacks holds what Missing answers against what is wanted.
func lacks(t *testing.T, a *array, seg, slot, seq int, want bool) {
	t.Helper()
	if got, err := Missing(a.b, seg, slot, seq); got != want || err != api.OK {
		t.Errorf("%v, %v: Missing(%d, %d, %d): %v, %v, not %v", a.g, a.m, seg, slot, seq, got, err, want)
	}
}

// refuses holds what Missing and Refill answer against an error.
func refuses(t *testing.T, a *array, seg, slot, seq int, want api.Errno) {
	t.Helper()
	if got, err := Missing(a.b, seg, slot, seq); got || err != want {
		t.Errorf("%v, %v: Missing(%d, %d, %d): %v, %v, not %v", a.g, a.m, seg, slot, seq, got, err, want)
	}
	is(t, "Refill", Refill(a.b, seg, slot, seq), want)
}

func TestMissing(t *testing.T) {
	for _, g := range geometries() {
		for _, m := range members(g) {
			a := open(t, g, m)
			is(t, "Write", Write(a.b, g.Segs-1, 9, some(perSeg(g), 1)), api.OK)
			for slot := range g.Disks {
				lacks(t, a, g.Segs-1, slot, 9, false)
				lacks(t, a, 0, slot, 9, true)
				lacks(t, a, 0, slot, 0, false)
				for _, seq := range otherSeqs(9) {
					lacks(t, a, g.Segs-1, slot, seq, true)
				}
			}
		}
	}
}

func TestNoSegmentOrSlot(t *testing.T) {
	for _, g := range geometries() {
		a := open(t, g, unused())
		for range 2 {
			for _, seg := range noSegs(g) {
				refuses(t, a, seg, 0, 1, api.ErrRange)
				refuses(t, a, seg, g.Disks-1, 0, api.ErrRange)
			}
			for _, slot := range noSlots(g) {
				refuses(t, a, 0, slot, 1, api.ErrRange)
				refuses(t, a, g.Segs-1, slot, 0, api.ErrRange)
				refuses(t, a, slot, slot, 1, api.ErrRange)
			}
			a.cutOff(t)
			refuses(t, a, 0, 0, 0, api.ErrDead)
			refuses(t, a, g.Segs-1, g.Disks-1, 1, api.ErrDead)
		}
	}
}

// A sector of another Seq in one row alone is lacking in its slot, and in no other one.
func TestMissingInOneRow(t *testing.T) {
	g := api.Geometry{Disks: 5, Rows: 4, Segs: 13}
	for _, m := range members(g) {
		for place := range 20 {
			for _, seq := range []int{0, 8, 9 + 1<<24} {
				a := open(t, g, m)
				is(t, "Write", Write(a.b, 6, 9, some(16, 1)), api.OK)
				a.reseq(t, 6, place/5, place%5, seq)
				for slot := range 5 {
					lacks(t, a, 6, slot, 9, slot == place%5)
				}
			}
		}
	}
}

// What can't be read is lacking; what is there of a slot that is bad isn't.
func TestMissingWithDisksLost(t *testing.T) {
	for _, m := range members(small()) {
		for _, lost := range sets() {
			a, _ := written(t, m, 6, 9)
			a.lose(t, lost...)
			for slot := range 4 {
				lacks(t, a, 6, slot, 9, a.r.Failed(a.disk(slot)))
			}
		}
	}
}

// Missing asks for the Seqs alone.
func TestMissingOfWrongBytes(t *testing.T) {
	for place := range 8 {
		a, _ := written(t, unused(), 6, 9)
		a.turn(t, 6, place/4, place%4, 4*8)
		lacks(t, a, 6, place%4, 9, false)
	}
}

// With nothing lacking nothing is written, though what stands there be wrong, or of noughts.
func TestRefillNothing(t *testing.T) {
	for _, m := range members(small()) {
		a, blocks := written(t, m, 6, 9)
		a.turn(t, 6, 1, 2, 5*8)
		image := imageOf(small(), 6, 9, blocks)
		image[1][2][5] ^= 1
		a.r.Arm(0)
		for slot := range 4 {
			is(t, "Refill", Refill(a.b, 6, slot, 9), api.OK)
			is(t, "Refill", Refill(a.b, 7, slot, 0), api.OK)
		}
		if a.b.Off() {
			t.Error("something was written")
		}
		a.holdsOnly(t, map[int][][][]byte{6: image})
	}
}

// spoiled is an array of 4 rows, of which in some (by the bits of a number) a slot's sector is of another writing.
func spoiled(t *testing.T, m api.Member, slot, rows int) (*array, [][][]byte) {
	t.Helper()
	g := api.Geometry{Disks: 5, Rows: 4, Segs: 13}
	a := open(t, g, m)
	is(t, "Write", Write(a.b, 6, 9, some(15, 1)), api.OK)
	for row := range 4 {
		if rows>>row&1 == 1 {
			a.put(t, 6, row, slot, plain(7, api.Block{Owner: row, Data: []byte{1, 2}}))
		}
	}
	return a, imageOf(g, 6, 9, some(15, 1))
}

// Each set of rows, in each slot: just those are written, and then all is as it was; nothing is flushed.
func TestRefill(t *testing.T) {
	for _, m := range members(api.Geometry{Disks: 5, Rows: 4, Segs: 13}) {
		for slot := range 5 {
			for rows := range 16 {
				a, image := spoiled(t, m, slot, rows)
				writes := rows&1 + rows>>1&1 + rows>>2&1 + rows>>3
				a.r.Arm(writes)
				is(t, "Refill", Refill(a.b, 6, slot, 9), api.OK)
				is(t, "the next call", a.r.Flush(0), api.ErrDead)
				a.r.Restore([]int{1})
				a.holds(t, 6, image)
				lacks(t, a, 6, slot, 9, false)
			}
		}
	}
	a, image := spoiled(t, unused(), 3, 5)
	is(t, "Refill", Refill(a.b, 6, 3, 9), api.OK)
	a.holdsOnly(t, map[int][][][]byte{6: image})
}

// The spare comes to stand for a slot whose disk failed: it is filled, segment by segment.
func TestRefillTheSpare(t *testing.T) {
	for slot := range 4 {
		for _, failed := range []bool{false, true} {
			a := open(t, small(), unused())
			for seg := range 3 {
				is(t, "Write", Write(a.b, seg, 20+seg, some(5, seg)), api.OK)
			}
			if failed {
				a.lose(t, slot)
			}
			a.m = api.Member{Epoch: 1, Slot: slot, State: api.Joining}
			a.b.Join(a.m)
			for seg := range 3 {
				lacks(t, a, seg, slot, 20+seg, true)
				is(t, "Refill", Refill(a.b, seg, slot, 20+seg), api.OK)
				lacks(t, a, seg, slot, 20+seg, false)
				a.holds(t, seg, imageOf(small(), seg, 20+seg, some(5, seg)))
				isSoundAs(t, a, seg, 20+seg, true)
			}
			a.m.State = api.Joined
			a.b.Join(a.m)
			a.lose(t, (slot+1)%4)
			for seg := range 3 {
				readsAll(t, a, seg, 20+seg, some(5, seg))
			}
		}
	}
}

// Another slot of a row is lacking, too: ErrIO; the rows ahead of that one are refilled, it and those behind it are as they were.
func TestRefillWithAnotherMissing(t *testing.T) {
	for slot := range 5 {
		for place := range 20 {
			row, other := place/5, place%5
			if other == slot {
				continue
			}
			for _, seq := range []int{0, 7, 10} {
				a, image := spoiled(t, unused(), slot, 15)
				a.reseq(t, 6, row, other, seq)
				a.r.Arm(row)
				is(t, "Refill", Refill(a.b, 6, slot, 9), api.ErrIO)
				is(t, "the next call", a.r.Flush(0), api.ErrDead)
				a.r.Restore([]int{1})
				for n := row; n < 4; n++ {
					image[n][slot] = plain(7, api.Block{Owner: n, Data: []byte{1, 2}})
				}
				copy(image[row][other], plain(seq, api.Block{})[:4])
				a.holds(t, 6, image)
				lacks(t, a, 6, slot, 9, true)
			}
		}
	}
}

// Where another slot lacks its sector in a row that needs nothing, that is no matter.
func TestRefillBesideAnotherMissing(t *testing.T) {
	for place := range 20 {
		row, other := place/5, place%5
		a, image := spoiled(t, unused(), 2, 15&^(1<<row))
		if other == 2 {
			continue
		}
		a.reseq(t, 6, row, other, 3)
		copy(image[row][other], plain(3, api.Block{})[:4])
		is(t, "Refill", Refill(a.b, 6, 2, 9), api.OK)
		a.holds(t, 6, image)
	}
}

// Each set of disks failed: of a slot whose disk is there nothing lacks; of one alone that failed it can't be written; of two it can't be told.
func TestRefillWithDisksLost(t *testing.T) {
	for _, m := range members(small()) {
		for _, lost := range sets() {
			a, blocks := written(t, m, 6, 9)
			a.lose(t, lost...)
			for slot := range 4 {
				want := api.OK
				switch {
				case a.r.Failed(a.disk(slot)) && a.gone() > 1:
					want = api.ErrIO
				case a.r.Failed(a.disk(slot)):
					want = api.ErrFailed
				}
				is(t, "Refill", Refill(a.b, 6, slot, 9), want)
			}
			a.holds(t, 6, imageOf(small(), 6, 9, blocks))
		}
	}
}

// A number that the segment hasn't can't be told of anything.
func TestRefillOfAnotherSeq(t *testing.T) {
	for _, seq := range otherSeqs(9) {
		a, blocks := written(t, unused(), 6, 9)
		a.r.Arm(0)
		for slot := range 4 {
			is(t, "Refill", Refill(a.b, 6, slot, seq), api.ErrIO)
		}
		if a.b.Off() {
			t.Error("something was written")
		}
		a.holdsOnly(t, map[int][][][]byte{6: imageOf(small(), 6, 9, blocks)})
	}
}

// The disk that is refilled fails at each write: ErrFailed, and no further call is made.
func TestRefillAsItsDiskFails(t *testing.T) {
	for _, m := range members(api.Geometry{Disks: 5, Rows: 4, Segs: 13}) {
		for slot := range 5 {
			for calls := range 5 {
				a, image := spoiled(t, m, slot, 15)
				is(t, "Doom", a.r.Doom(a.disk(slot), calls), api.OK)
				a.r.Arm(calls + 1)
				if calls == 4 {
					is(t, "Refill", Refill(a.b, 6, slot, 9), api.OK)
				} else {
					is(t, "Refill", Refill(a.b, 6, slot, 9), api.ErrFailed)
					is(t, "the next call", a.r.Flush(0), api.ErrDead)
					a.r.Restore([]int{1})
				}
				a.holds(t, 6, image)
			}
		}
	}
}

// Another disk fails while it writes: the row that is behind that can't be told any more.
func TestRefillAsAnotherDiskFails(t *testing.T) {
	for calls := range 5 {
		a, _ := spoiled(t, unused(), 1, 15)
		is(t, "Doom", a.r.Doom(3, calls), api.OK)
		a.r.Arm(calls + 1)
		// It fails at the write with this number: in the last row there is none behind that.
		if calls < 3 {
			is(t, "Refill", Refill(a.b, 6, 1, 9), api.ErrIO)
		} else {
			is(t, "Refill", Refill(a.b, 6, 1, 9), api.OK)
		}
	}
}

// The power goes at each write: the rows ahead of it are refilled, the others are as they were.
func TestRefillAsThePowerGoes(t *testing.T) {
	for _, m := range members(api.Geometry{Disks: 5, Rows: 4, Segs: 13}) {
		for slot := range 5 {
			for calls := range 4 {
				a, image := spoiled(t, m, slot, 15)
				a.r.Arm(calls)
				is(t, "Refill", Refill(a.b, 6, slot, 9), api.ErrDead)
				is(t, "without power", Refill(a.b, 6, slot, 9), api.ErrDead)
				a.r.Restore([]int{1})
				for n := calls; n < 4; n++ {
					image[n][slot] = plain(7, api.Block{Owner: n, Data: []byte{1, 2}})
				}
				a.holds(t, 6, image)
			}
		}
	}
}

// isSoundAs holds what Sound answers against what is wanted.
func isSoundAs(t *testing.T, a *array, seg, seq int, want bool) {
	t.Helper()
	if got, err := Sound(a.b, seg, seq); got != want || err != api.OK {
		t.Errorf("%v, %v: Sound(%d, %d): %v, %v, not %v", a.g, a.m, seg, seq, got, err, want)
	}
}

func TestSound(t *testing.T) {
	for _, g := range geometries() {
		for i, m := range members(g) {
			a := open(t, g, m)
			seg := []int{0, 1, g.Segs - 1}[i%3]
			isSoundAs(t, a, seg, 0, true)
			isSoundAs(t, a, seg, 9, false)
			is(t, "Write", Write(a.b, seg, 9, some(i%(perSeg(g)+1), i)), api.OK)
			isSoundAs(t, a, seg, 9, true)
			for _, seq := range otherSeqs(9) {
				isSoundAs(t, a, seg, seq, false)
			}
			isSoundAs(t, a, 2, 9, false)
			isSoundAs(t, a, 2, 0, true)
		}
	}
}

func TestSoundOfNoSegment(t *testing.T) {
	for _, g := range geometries() {
		a := open(t, g, unused())
		for range 2 {
			for _, seg := range noSegs(g) {
				if got, err := Sound(a.b, seg, 0); got || err != api.ErrRange {
					t.Errorf("%v: Sound(%d): %v, %v", g, seg, got, err)
				}
			}
			a.cutOff(t)
			if got, err := Sound(a.b, g.Segs-1, 0); got || err != api.ErrDead {
				t.Errorf("%v, without power: %v, %v", g, got, err)
			}
		}
	}
}

// Each bit of each sector turned is found; turned again, the segment is sound.
func TestSoundFindsEachBit(t *testing.T) {
	for _, m := range []api.Member{unused(), {Slot: 1, State: api.Joining}, {Slot: 2, State: api.Joined}} {
		a, _ := written(t, m, 6, 9)
		for place := range 8 {
			for bit := range 8 * api.SectorSize {
				a.turn(t, 6, place/4, place%4, bit)
				isSoundAs(t, a, 6, 9, false)
				a.turn(t, 6, place/4, place%4, bit)
			}
			isSoundAs(t, a, 6, 9, true)
		}
	}
}

func TestSoundWithAnotherAmongThem(t *testing.T) {
	for _, m := range members(small()) {
		for place := range 8 {
			for _, seq := range []int{0, 8, 10, 1<<32 - 1} {
				a, _ := written(t, m, 6, 9)
				a.reseq(t, 6, place/4, place%4, seq)
				isSoundAs(t, a, 6, 9, false)
				isSoundAs(t, a, 6, seq, false)
			}
		}
	}
}

// A row's parity and all its blocks have a Seq, but the parity is another row's.
func TestSoundWithAnotherRowsParity(t *testing.T) {
	for row := range 2 {
		a, blocks := written(t, unused(), 6, 9)
		image := imageOf(small(), 6, 9, blocks)
		other := image[1-row][slotOf(small(), 6, 1-row, 3)]
		if bytes.Equal(other, image[row][slotOf(small(), 6, row, 3)]) {
			t.Fatal("the rows are alike")
		}
		a.put(t, 6, row, slotOf(small(), 6, row, 3), other)
		isSoundAs(t, a, 6, 9, false)
	}
}

// With each set of disks failed: sound, if no slot's disk is one of them. What can be read of a slot that is bad counts.
func TestSoundWithDisksLost(t *testing.T) {
	for _, m := range members(small()) {
		for _, lost := range sets() {
			a, _ := written(t, m, 6, 9)
			a.lose(t, lost...)
			want := true
			for slot := range 4 {
				want = want && !a.r.Failed(a.disk(slot))
			}
			isSoundAs(t, a, 6, 9, want)
		}
	}
}

// What was written without a slot isn't sound till that is refilled.
func TestSoundBehindRefill(t *testing.T) {
	for slot := range 4 {
		a := open(t, small(), unused())
		a.lose(t, slot)
		is(t, "Write", Write(a.b, 6, 9, some(6, 1)), api.OK)
		isSoundAs(t, a, 6, 9, false)
		a.m = api.Member{Slot: slot, State: api.Joining}
		a.b.Join(a.m)
		isSoundAs(t, a, 6, 9, false)
		is(t, "Refill", Refill(a.b, 6, slot, 9), api.OK)
		isSoundAs(t, a, 6, 9, true)
	}
}

// None of the calls that only look writes anything, or is counted.
func TestLookingChangesNothing(t *testing.T) {
	for _, m := range members(small()) {
		a, blocks := written(t, m, 6, 9)
		a.r.Arm(0)
		for seg := range 16 {
			for slot := range 4 {
				Whole(a.b, seg)
				Missing(a.b, seg, slot, 9)
				Sound(a.b, seg, 9)
				Read(a.b, seg, slot, 9)
			}
		}
		if a.b.Off() {
			t.Error("something was written")
		}
		a.holdsOnly(t, map[int][][][]byte{6: imageOf(small(), 6, 9, blocks)})
	}
}
