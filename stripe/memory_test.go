package stripe

import (
	"bytes"
	"slices"
	"testing"

	"moraine/api"
	"moraine/bank"
)

// spare are blocks with room behind them, and data with room behind it; all of it is told by the second result.
func spare(n int) ([]api.Block, []api.Block) {
	all := make([]api.Block, n+3)
	for i := range all {
		memory := bytes.Repeat([]byte{byte(i + 1)}, 90)
		all[i] = api.Block{Owner: i, Index: 2 * i, Data: memory[:10*i%57]}
	}
	return all[:n], all
}

// deep is a copy of blocks, of the room behind their data, too.
func deep(blocks []api.Block) []api.Block {
	out := slices.Clone(blocks)
	for i := range out {
		data := out[i].Data
		out[i].Data = bytes.Clone(data[:cap(data)])[:len(data)]
	}
	return out
}

// alike: are blocks as their copy is, also in the room behind their data?
func alike(blocks, copied []api.Block) bool {
	return slices.EqualFunc(blocks, copied, func(a, b api.Block) bool {
		return same(a, b) && bytes.Equal(a.Data[:cap(a.Data)], b.Data[:cap(a.Data)])
	})
}

// spoil changes all of a list's memory, its spare room too.
func spoil(b []byte) {
	b = b[:cap(b)]
	for i := range b {
		b[i] ^= 0xff
	}
}

// Whatever Write answers: the blocks and what lies behind them are as they were, and what is written has no part in them.
func TestHandedInIsNeitherChangedNorKept(t *testing.T) {
	for _, m := range members(small()) {
		for n := range 8 {
			for _, calls := range []int{-1, 0, 5} {
				a := open(t, small(), m)
				a.r.Arm(calls)
				blocks, all := spare(n)
				copied := deep(all)
				err := Write(a.b, 6, 9, blocks)
				Write(a.b, -6, 9, blocks)
				if !alike(all, copied) {
					t.Errorf("%v, %d blocks, %d calls: they are changed", m, n, calls)
				}
				for i := range all {
					spoil(all[i].Data)
					all[i].Owner++
				}
				if err == api.OK {
					a.holdsOnly(t, map[int][][][]byte{6: imageOf(small(), 6, 9, copied[:n])})
				}
			}
		}
	}
}

// A block that can't be a sector is left as it is, too.
func TestNoBlockIsNotChanged(t *testing.T) {
	a := open(t, small(), unused())
	blocks, all := spare(6)
	blocks[4].Data = blocks[4].Data[:57]
	copied := deep(all)
	is(t, "Write", Write(a.b, 6, 9, blocks), api.ErrRoom)
	if !alike(all, copied) {
		t.Error("they are changed")
	}
}

// All blocks may share one memory.
func TestBlocksOfOneMemory(t *testing.T) {
	a := open(t, small(), unused())
	memory := bytes.Repeat([]byte{1, 2, 3, 4}, 20)
	var blocks []api.Block
	for i := range 6 {
		blocks = append(blocks, api.Block{Owner: i, Data: memory[i : i+20+i]})
	}
	copied := deep(blocks)
	is(t, "Write", Write(a.b, 6, 9, blocks), api.OK)
	if !bytes.Equal(memory, bytes.Repeat([]byte{1, 2, 3, 4}, 20)) {
		t.Error("it is changed")
	}
	readsAll(t, a, 6, 9, copied)
}

// What is read may be written over, whether its sector told it or the others did: neither what is kept changes, nor what was read else.
func TestAnsweredIsNewMemory(t *testing.T) {
	for _, m := range members(small()) {
		for _, lost := range []int{-1, 0, 1, 2, 3, 4} {
			for _, flushed := range []bool{false, true} {
				a, blocks := written(t, m, 6, 9)
				if flushed {
					is(t, "Flush", a.b.Flush(), api.OK)
				}
				if lost >= 0 {
					a.lose(t, lost)
				}
				var got []api.Block
				for k := range 6 {
					block, err := Read(a.b, 6, k, 9)
					is(t, "Read", err, api.OK)
					got = append(got, block)
				}
				for k, want := range padded(small(), blocks) {
					if !same(got[k], want) {
						t.Errorf("%v, lost %d: block %d has changed", m, lost, k)
					}
					spoil(got[k].Data)
				}
				readsAll(t, a, 6, 9, blocks)
				a.holds(t, 6, imageOf(small(), 6, 9, blocks))
			}
		}
	}
}

// Nothing is kept but on the rack: what is written by one bank is there for another one on the same rack, and not on another rack.
func TestNothingIsKept(t *testing.T) {
	a, blocks := written(t, unused(), 6, 9)
	elsewhere := open(t, small(), unused())
	fails(t, elsewhere, 6, 0, 9, api.ErrIO)
	isNotWhole(t, elsewhere, 6, api.OK)
	b, err := bank.Open(a.r, small(), unused())
	is(t, "Open", err, api.OK)
	beside := &array{g: a.g, m: a.m, b: b, r: a.r}
	readsAll(t, beside, 6, 9, blocks)
	is(t, "Write", Write(b, 7, 10, nil), api.OK)
	isWhole(t, a, 7, 10)
	isWhole(t, a, 6, 9)
}
