package block

import (
	"testing"
)

// isMove holds Move's answer against how many there are.
func (x *pair) isMove(want, from, to int) {
	x.t.Helper()
	if got := x.m.Move(from, to); got != want {
		x.t.Errorf("from %d to %d: %d, not %d", from, to, got, want)
	}
	x.p.move(from, to)
}

// By hand.
func TestMoveByHand(t *testing.T) {
	x := both(t, 5, 6, 5, 0, 7, 5)
	x.put(2, filled(5))
	x.isMove(2, 5, 9)
	x.same()
	x.isMove(0, 5, 9)
	x.isMove(2, 9, 6)
	x.isMove(3, 6, 1)
	x.isMove(1, 7, 7)
	x.same()
	for k, want := range []int{1, 1, 0, 0, 7, 1} {
		if got := x.m.At(k); got != want {
			t.Errorf("block %d is at %d, not %d", k, got, want)
		}
	}
}

// From and to addresses at the bounds and beside them, with blocks of each kind, some at each bound.
func TestMoveAtTheBounds(t *testing.T) {
	numbers := append(noAddresses(), 0, 1, 2, 255, 256, 32768, 65534, 65535)
	for _, from := range numbers {
		for _, to := range numbers {
			x := unlooked(t, []int{1, 65535, 0, 2, 1, 65534, 65535, 256, 0, 65535})
			x.put(2, filled(1))
			x.put(20, filled(2))
			want := 0
			for k := range 20 {
				if at := x.m.At(k); at != 0 && at == from && to >= 1 && to <= 65535 {
					want++
				}
			}
			x.isMove(want, from, to)
			for k := -1; k < 30; k++ {
				x.is(k)
			}
			x.lists()
		}
	}
}

// What is no address moves nothing, new and none neither.
func TestMoveOfNoAddress(t *testing.T) {
	x := mixed(t)
	for _, no := range append(noAddresses(), 0) {
		for _, address := range []int{0, 1, 5, 50, 65535, 65536, -1} {
			x.isMove(0, no, address)
			x.isMove(0, address, no)
		}
		x.isMove(0, no, no)
	}
	x.same()
}

// From an address at which no block is, one is, and many are.
func TestMoveOfSoMany(t *testing.T) {
	for _, n := range []int{0, 1, 2, 3, 400, 827, 828} {
		addresses := from(1, 829)
		for i := range n {
			addresses[(5*i)%828] = 60000
		}
		for _, to := range []int{1, 65535, 60000, 60001} {
			x := both(t, addresses...)
			x.isMove(n, 60000, to)
			x.same()
			if to != 60000 {
				x.isMove(0, 60000, to)
			}
			x.same()
		}
	}
}

// To an address at which blocks are already: from then on they go with them.
func TestMoveTogether(t *testing.T) {
	x := both(t, 3, 4, 4, 5, 5, 5, 0, 3)
	x.put(6, filled(3))
	x.isMove(2, 3, 4)
	x.same()
	x.isMove(4, 4, 5)
	x.same()
	x.isMove(7, 5, 3)
	x.same()
}

// From an address to itself: nothing changes, but it is told how many.
func TestMoveToItself(t *testing.T) {
	x := both(t, 3, 4, 4, 65535, 65535, 65535, 1)
	for address, want := range map[int]int{1: 1, 2: 0, 3: 1, 4: 2, 65535: 3, 65534: 0, 0: 0, -1: 0, 65536: 0} {
		x.isMove(want, address, address)
		x.same()
	}
}

// Back and forth, and round.
func TestMoveRound(t *testing.T) {
	x := both(t, 1, 2, 3, 1, 2, 1)
	x.isMove(3, 1, 9)
	x.isMove(2, 2, 1)
	x.isMove(1, 3, 2)
	x.isMove(3, 9, 3)
	x.same()
	x.isMove(0, 9, 1)
	x.same()
}

// Blocks that are placed move as those do that have been there from the beginning; those that are new again don't.
func TestMoveBehindOtherCalls(t *testing.T) {
	x := both(t, 7, 7, 7, 7)
	x.put(1, filled(1))
	x.isMove(3, 7, 8)
	x.put(9, filled(1))
	x.place(9, 8)
	x.isMove(4, 8, 7)
	x.put(0, make([]byte, 56))
	x.isMove(3, 7, 8)
	x.cut(3)
	x.isMove(1, 8, 65535)
	x.place(1, 65535)
	x.isMove(2, 65535, 1)
	x.same()
}
