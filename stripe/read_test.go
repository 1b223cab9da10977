package stripe

import (
	"testing"

	"moraine/api"
)

// reads holds what Read answers against a block.
func reads(t *testing.T, a *array, seg, k, seq int, want api.Block) {
	t.Helper()
	if got, err := Read(a.b, seg, k, seq); err != api.OK || !same(got, want) {
		t.Errorf("%v, %v: Read(%d, %d, %d): %v, %v, not %v", a.g, a.m, seg, k, seq, got, err, want)
	}
}

// readsAll holds all that Read answers of a segment against the blocks that it was written with.
func readsAll(t *testing.T, a *array, seg, seq int, blocks []api.Block) {
	t.Helper()
	for k, want := range padded(a.g, blocks) {
		reads(t, a, seg, k, seq, want)
	}
}

// fails holds what Read answers against an error.
func fails(t *testing.T, a *array, seg, k, seq int, want api.Errno) {
	t.Helper()
	if got, err := Read(a.b, seg, k, seq); err != want || !isNone(got) {
		t.Errorf("%v, %v: Read(%d, %d, %d): %v, %v, not %v", a.g, a.m, seg, k, seq, got, err, want)
	}
}

// placeOf: the row of a small array's block, and its slot.
func placeOf(seg, k int) (int, int) {
	return k / 3, slotOf(small(), seg, k/3, k%3)
}

func TestReadEachBlock(t *testing.T) {
	for _, g := range geometries() {
		for i, m := range members(g) {
			a := open(t, g, m)
			seg := []int{0, 1, g.Segs - 1}[i%3]
			for _, n := range counts(g) {
				blocks := some(n, i)
				is(t, "Write", Write(a.b, seg, n+1, blocks), api.OK)
				readsAll(t, a, seg, n+1, blocks)
			}
		}
	}
}

func TestReadNoBlock(t *testing.T) {
	for _, g := range geometries() {
		a := open(t, g, unused())
		is(t, "Write", Write(a.b, g.Segs-1, 1, nil), api.OK)
		for _, off := range []bool{false, true} {
			for _, k := range append(strange(), perSeg(g), perSeg(g)+1) {
				fails(t, a, g.Segs-1, k, 1, api.ErrRange)
				fails(t, a, k, k, 1, api.ErrRange)
			}
			for _, seg := range noSegs(g) {
				fails(t, a, seg, 0, 1, api.ErrRange)
				fails(t, a, seg, perSeg(g)-1, -1, api.ErrRange)
			}
			if !off {
				reads(t, a, g.Segs-1, perSeg(g)-1, 1, padded(g, nil)[0])
				a.cutOff(t)
				fails(t, a, g.Segs-1, perSeg(g)-1, 1, api.ErrDead)
				fails(t, a, 0, 0, 77, api.ErrDead)
			}
		}
	}
}

// Neither a writing of another number is read, nor numbers that no sector tells.
func TestReadOfAnotherSeq(t *testing.T) {
	for _, seq := range []int{1, 258, 1<<32 - 1} {
		a, _ := written(t, unused(), 7, seq)
		for _, other := range otherSeqs(seq) {
			for k := range 6 {
				fails(t, a, 7, k, other, api.ErrIO)
			}
		}
	}
}

// Of segments that were never written each sector has the Seq 0.
func TestReadOfNoughts(t *testing.T) {
	a := open(t, small(), unused())
	for k := range 6 {
		reads(t, a, 7, k, 0, padded(small(), nil)[0])
		fails(t, a, 7, k, 1, api.ErrIO)
		fails(t, a, 7, k, 1<<32, api.ErrIO)
	}
}

// With each disk failed, in each geometry.
func TestReadWithADiskLost(t *testing.T) {
	for _, g := range geometries() {
		for disk := range g.Disks + 1 {
			for _, seg := range []int{0, 3, g.Segs - 1} {
				a := open(t, g, unused())
				blocks := some(perSeg(g), disk)
				is(t, "Write", Write(a.b, seg, 9, blocks), api.OK)
				a.lose(t, disk)
				readsAll(t, a, seg, 9, blocks)
			}
		}
	}
}

// With each set of disks failed: a block is read, if its own slot's disk is there, or all others are.
func TestReadWithDisksLost(t *testing.T) {
	for _, m := range members(small()) {
		for _, lost := range sets() {
			a, blocks := written(t, m, 5, 9)
			a.lose(t, lost...)
			for k, want := range padded(small(), blocks) {
				_, slot := placeOf(5, k)
				if a.gone() > 1 && a.r.Failed(a.disk(slot)) {
					fails(t, a, 5, k, 9, api.ErrIO)
				} else {
					reads(t, a, 5, k, 9, want)
				}
			}
		}
	}
}

// What was written while a disk was lost is read, also of the slot that lacks it.
func TestReadOfAWritingThatLacksASlot(t *testing.T) {
	for _, m := range members(small()) {
		for disk := range 5 {
			a := open(t, small(), m)
			a.lose(t, disk)
			if a.badOnes() > 1 {
				continue
			}
			is(t, "Write", Write(a.b, 5, 9, some(6, 1)), api.OK)
			readsAll(t, a, 5, 9, some(6, 1))
		}
	}
}

// In each slot of each row a sector of another Seq: the others tell it. Two in one row: the two that they are can't be told, all else can.
func TestReadWithOthersAmongThem(t *testing.T) {
	for _, m := range members(small()) {
		for one := range 8 {
			for two := range 8 {
				a, blocks := written(t, m, 6, 9)
				a.reseq(t, 6, one/4, one%4, 8)
				a.reseq(t, 6, two/4, two%4, 9+1<<24)
				for k, want := range padded(small(), blocks) {
					row, slot := placeOf(6, k)
					lacks := 4*row+slot == one || 4*row+slot == two
					if lacks && one != two && one/4 == two/4 {
						fails(t, a, 6, k, 9, api.ErrIO)
					} else {
						reads(t, a, 6, k, 9, want)
					}
				}
			}
		}
	}
}

// A sector of another Seq, and a disk that has failed, the parity's too: of a row that lacks both neither is told.
func TestReadWithAnotherAndADiskLost(t *testing.T) {
	for place := range 8 {
		for lost := range 4 {
			a, blocks := written(t, unused(), 6, 9)
			a.reseq(t, 6, place/4, place%4, 10)
			a.lose(t, lost)
			for k, want := range padded(small(), blocks) {
				row, slot := placeOf(6, k)
				if row == place/4 && place%4 != lost && (slot == lost || slot == place%4) {
					fails(t, a, 6, k, 9, api.ErrIO)
				} else {
					reads(t, a, 6, k, 9, want)
				}
			}
		}
	}
}

// A sector that has the Seq is taken at its word, whatever the others would tell; one that hasn't is told by them, whatever it holds.
func TestReadTakesTheSectorItself(t *testing.T) {
	for _, m := range members(small()) {
		for k := range 6 {
			a, _ := written(t, m, 6, 9)
			row, slot := placeOf(6, k)
			own := api.Block{Owner: 5, Index: 6, Data: make([]byte, 56)}
			a.put(t, 6, row, slot, plain(9, own))
			reads(t, a, 6, k, 9, own)
			b, blocks := written(t, m, 6, 9)
			b.put(t, 6, row, slot, plain(8, own))
			reads(t, b, 6, k, 9, padded(small(), blocks)[k])
		}
	}
}

// The parity of a row tells a lost block as it stands there, right or not.
func TestReadTakesTheParity(t *testing.T) {
	a, blocks := written(t, unused(), 6, 9)
	a.turn(t, 6, 0, slotOf(small(), 6, 0, 3), 8*8+1)
	a.lose(t, slotOf(small(), 6, 0, 1))
	want := padded(small(), blocks)
	want[1].Data[0] ^= 2
	for k := range 6 {
		reads(t, a, 6, k, 9, want[k])
	}
}

// isWhole holds what Whole answers against a number.
func isWhole(t *testing.T, a *array, seg, want int) {
	t.Helper()
	if seq, ok, err := Whole(a.b, seg); seq != want || !ok || err != api.OK {
		t.Errorf("%v, %v: Whole(%d): %d, %v, %v, not %d", a.g, a.m, seg, seq, ok, err, want)
	}
}

// isNotWhole holds what Whole answers against none, with an error or OK.
func isNotWhole(t *testing.T, a *array, seg int, want api.Errno) {
	t.Helper()
	if seq, ok, err := Whole(a.b, seg); seq != 0 || ok || err != want {
		t.Errorf("%v, %v: Whole(%d): %d, %v, %v, not %v", a.g, a.m, seg, seq, ok, err, want)
	}
}

func TestWhole(t *testing.T) {
	for _, g := range geometries() {
		for _, m := range members(g) {
			a := open(t, g, m)
			for i, seq := range []int{1, 2, 1 << 24, 1<<32 - 1} {
				seg := []int{0, 1, 2, g.Segs - 1}[i]
				isNotWhole(t, a, seg, api.OK)
				is(t, "Write", Write(a.b, seg, seq, some(i%perSeg(g), i)), api.OK)
				isWhole(t, a, seg, seq)
			}
			isNotWhole(t, a, 3, api.OK)
		}
	}
}

func TestWholeOfNoSegment(t *testing.T) {
	for _, g := range geometries() {
		a := open(t, g, unused())
		for range 2 {
			for _, seg := range noSegs(g) {
				isNotWhole(t, a, seg, api.ErrRange)
			}
			a.cutOff(t)
			isNotWhole(t, a, 0, api.ErrDead)
			isNotWhole(t, a, g.Segs-1, api.ErrDead)
		}
	}
}

// One sector of another Seq, in each slot of each row: it counts, unless its slot is bad.
func TestWholeWithAnotherAmongThem(t *testing.T) {
	for _, m := range members(small()) {
		for place := range 8 {
			for _, seq := range []int{0, 8, 10, 9 + 1<<24} {
				a, _ := written(t, m, 6, 9)
				a.reseq(t, 6, place/4, place%4, seq)
				if a.bad(place % 4) {
					isWhole(t, a, 6, 9)
				} else {
					isNotWhole(t, a, 6, api.OK)
				}
			}
		}
	}
}

// A row of another writing in between, at each place among the rows.
func TestWholeWithARowAmongThem(t *testing.T) {
	g := api.Geometry{Disks: 5, Rows: 4, Segs: 13}
	for row := range 4 {
		for _, seq := range []int{0, 8, 10} {
			a := open(t, g, unused())
			is(t, "Write", Write(a.b, 6, 9, some(16, 0)), api.OK)
			for slot := range 5 {
				a.reseq(t, 6, row, slot, seq)
			}
			isNotWhole(t, a, 6, api.OK)
			for n := range 20 {
				a.reseq(t, 6, n/5, n%5, 9)
			}
			isWhole(t, a, 6, 9)
		}
	}
}

// A slot that is bad may hold whatever it likes; what the disk holds whose place the spare takes is no matter either.
func TestWholeWithABadSlot(t *testing.T) {
	for slot := range 4 {
		a, _ := written(t, api.Member{Slot: slot, State: api.Joining}, 6, 9)
		for row := range 2 {
			a.put(t, 6, row, slot, plain(77+row, api.Block{Owner: 3}))
		}
		isWhole(t, a, 6, 9)
		for row := range 2 {
			is(t, "Write", a.r.Write(slot, sectorOf(small(), 6, row), plain(5, api.Block{})), api.OK)
		}
		isWhole(t, a, 6, 9)
		b, _ := written(t, unused(), 6, 9)
		b.lose(t, slot)
		isWhole(t, b, 6, 9)
		// What was written without the slot is whole as well.
		is(t, "Write", Write(b.b, 6, 10, nil), api.OK)
		isWhole(t, b, 6, 10)
		is(t, "Write", Write(b.b, 7, 11, nil), api.OK)
		isWhole(t, b, 7, 11)
	}
}

// With each set of disks failed.
func TestWholeWithDisksLost(t *testing.T) {
	for _, m := range members(small()) {
		for _, lost := range sets() {
			a, _ := written(t, m, 5, 9)
			a.lose(t, lost...)
			if a.badOnes() > 1 {
				isNotWhole(t, a, 5, api.OK)
			} else {
				isWhole(t, a, 5, 9)
			}
			isNotWhole(t, a, 4, api.OK)
		}
	}
}

// All sectors have a Seq, but it is 0; or a disk was never written, and has 0 alone.
func TestWholeOfNought(t *testing.T) {
	for _, m := range members(small()) {
		a := open(t, small(), m)
		for n := range 8 {
			a.put(t, 6, n/4, n%4, plain(0, some(8, 2)[n]))
		}
		isNotWhole(t, a, 6, api.OK)
	}
	for slot := range 4 {
		a := open(t, small(), unused())
		for n := range 8 {
			if n%4 != slot {
				a.put(t, 6, n/4, n%4, plain(9, some(8, 2)[n]))
			}
		}
		isNotWhole(t, a, 6, api.OK)
		a.lose(t, slot)
		isWhole(t, a, 6, 9)
	}
}

// Whole asks for the Seqs alone: not whether the parity is right.
func TestWholeWithAWrongParity(t *testing.T) {
	for place := range 8 {
		a, _ := written(t, unused(), 6, 9)
		a.turn(t, 6, place/4, place%4, 4*8)
		isWhole(t, a, 6, 9)
	}
}

// A writing that the power cut short is none: neither of its own number, nor of the one ahead of it.
func TestWholeOfATornWriting(t *testing.T) {
	for calls := range 9 {
		a, _ := written(t, unused(), 6, 9)
		a.r.Arm(calls)
		Write(a.b, 6, 10, nil)
		a.r.Restore([]int{1})
		switch calls {
		case 0:
			isWhole(t, a, 6, 9)
		case 8:
			isWhole(t, a, 6, 10)
		default:
			isNotWhole(t, a, 6, api.OK)
		}
	}
}
