package need

import (
	"slices"
	"testing"
)

// Around the first block's end: no bytes, 55, 56, 57.
func TestThereFewBytes(t *testing.T) {
	isThere(t, nil)
	isThere(t, []byte{})
	isThere(t, []byte{0})
	isThere(t, []byte{1}, 0)
	isThere(t, filled(55), 0)
	isThere(t, filled(56), 0)
	isThere(t, filled(57), 0, 1)
	isThere(t, noughts(55))
	isThere(t, noughts(56))
	isThere(t, noughts(57))
	isThere(t, append(noughts(54), 1), 0)
	isThere(t, append(noughts(55), 1), 0)
	isThere(t, append(noughts(56), 1), 1)
	isThere(t, append(filled(55), 0), 0)
	isThere(t, append(filled(56), 0), 0)
	isThere(t, append(filled(56), 1), 0, 1)
}

// So many bytes, none of them 0: each block is there, the last one with as few bytes as it may have.
func TestThereFilled(t *testing.T) {
	for n := range 1000 {
		isThere(t, filled(n), from(0, (n+55)/56)...)
	}
	for _, n := range sizes() {
		isThere(t, filled(n), from(0, (n+55)/56)...)
	}
}

// Noughts alone: none is there, however many they are.
func TestThereNoughts(t *testing.T) {
	for n := range 1000 {
		isThere(t, noughts(n))
	}
	for _, n := range sizes() {
		isThere(t, noughts(n))
	}
}

// One byte that isn't 0, at each place of each short length: its block alone is there.
func TestThereOneByte(t *testing.T) {
	for n := 1; n <= 285; n++ {
		for at := range n {
			b := noughts(n)
			b[at] = byte(at%255 + 1)
			isThere(t, b, at/56)
		}
	}
	for at := 0; at < 46368; at += 13 {
		b := noughts(46368)
		b[at] = 1
		isThere(t, b, at/56)
	}
	for k := range 828 {
		for _, at := range []int{56 * k, 56*k + 55} {
			b := noughts(46368)
			b[at] = 0x80
			isThere(t, b, k)
		}
	}
}

// Any value but 0 makes a block be there.
func TestThereEachValue(t *testing.T) {
	for value := 1; value < 256; value++ {
		for _, at := range []int{0, 7, 55, 56, 111, 112, 120} {
			b := noughts(121)
			b[at] = byte(value)
			isThere(t, b, at/56)
		}
	}
}

// One block of noughts between others, at the beginning, at the end: all but that one are there.
func TestThereHoles(t *testing.T) {
	for size := 1; size <= 400; size++ {
		blocks := (size + 55) / 56
		for hole := range blocks {
			b := filled(size)
			clear(b[56*hole : min(56*hole+56, size)])
			isThere(t, b, slices.Concat(from(0, hole), from(hole+1, blocks))...)
		}
	}
	b := filled(46368)
	clear(b[56*16 : 56*828])
	isThere(t, b, from(0, 16)...)
	b[46367] = 9
	isThere(t, b, append(from(0, 16), 827)...)
}

// Noughts within a block, ahead of its first byte that isn't 0, and behind its last one, take nothing from it.
func TestThereNoughtsWithin(t *testing.T) {
	for begin := range 57 {
		for end := begin; end <= 56; end++ {
			b := noughts(168)
			for i := 56 + begin; i < 56+end; i++ {
				b[i] = 5
			}
			if begin == end {
				isThere(t, b)
				continue
			}
			isThere(t, b, 1)
			isThere(t, b[:56+end], 1)
			b[0], b[167] = 1, 1
			isThere(t, b, 0, 1, 2)
		}
	}
}

// The last block has fewer bytes: what is there of it tells.
func TestThereLastBlock(t *testing.T) {
	for rest := 1; rest <= 56; rest++ {
		for _, whole := range []int{0, 1, 2, 15, 16, 827, 828} {
			b := noughts(56*whole + rest)
			isThere(t, b)
			b[len(b)-1] = 1
			isThere(t, b, whole)
			b[0] = 1
			isThere(t, b, slices.Compact([]int{0, whole})...)
			isThere(t, append(filled(56*whole), noughts(rest)...), from(0, whole)...)
		}
	}
}

// Every choice of ten blocks.
func TestThereEachChoice(t *testing.T) {
	for choice := range 1 << 10 {
		var want []int
		for k := range 10 {
			if choice>>k&1 == 1 {
				want = append(want, k)
			}
		}
		isThere(t, with(want...), want...)
		isThere(t, append(with(want...), noughts(100)...), want...)
	}
}

// More bytes than a file may have: blocks are numbered on.
func TestThereBeyondMaxSize(t *testing.T) {
	isThere(t, with(827), 827)
	isThere(t, with(828), 828)
	isThere(t, with(0, 827, 828, 829), 0, 827, 828, 829)
	isThere(t, with(5, 1<<16, 1<<16+1), 5, 1<<16, 1<<16+1)
	isThere(t, filled(56*829), from(0, 829)...)
}
