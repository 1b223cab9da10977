package block

import (
	"math"
	"slices"
	"testing"
)

// By hand.
func TestCutByHand(t *testing.T) {
	m, _ := New([]int{5, 0, 7, 8})
	m.Put(1, filled(1))
	m.Put(9, filled(1))
	for _, c := range []struct {
		n    int
		want []int
	}{{10, []int{0, 1, 2, 3, 9}}, {9, []int{0, 1, 2, 3}}, {3, []int{0, 1, 2}}, {2, []int{0, 1}}, {1, []int{0}}, {0, nil}} {
		m.Cut(c.n)
		if got := m.There(); !slices.Equal(got, c.want) {
			t.Errorf("behind Cut of %d there are %v, not %v", c.n, got, c.want)
		}
	}
}

// At each number, with blocks of each kind on both sides.
func TestCutAtEachNumber(t *testing.T) {
	whole := mixed(t)
	for n := -3; n < 832; n++ {
		x := whole.clone()
		x.cut(n)
		x.same()
	}
	whole.same()
}

// At numbers far off.
func TestCutAtTheBounds(t *testing.T) {
	for _, n := range append(nowheres(), 0, 1, 826, 827) {
		x := mixed(t)
		x.m.Cut(n)
		x.p.cut(n)
		x.same()
	}
	x := mixed(t)
	for _, n := range []int{828, 829, 65536, math.MaxInt} {
		x.m.Cut(n)
		if got := x.m.There(); len(got) != 552 {
			t.Errorf("behind Cut of %d there are %d", n, len(got))
		}
	}
	for _, n := range []int{0, -1, math.MinInt} {
		x := mixed(t)
		x.m.Cut(n)
		if got := x.m.There(); len(got) != 0 {
			t.Errorf("behind Cut of %d there are %v", n, got)
		}
	}
}

// Of two blocks side by side, of each kind, one is cut off.
func TestCutBetweenTwo(t *testing.T) {
	for _, k := range []int{0, 1, 15, 16, 43, 44, 826} {
		for _, kinds := range []struct{ first, second []byte }{{nil, nil}, {filled(1), nil}, {nil, filled(2)}, {filled(1), filled(2)}, {make([]byte, 56), nil}, {nil, make([]byte, 56)}} {
			x := both(t, append(make([]int, k), 3, 4)...)
			if kinds.first != nil {
				x.put(k, kinds.first)
			}
			if kinds.second != nil {
				x.put(k+1, kinds.second)
			}
			for _, n := range []int{k + 2, k + 1, k} {
				x.cut(n)
				x.same()
			}
		}
	}
}

// What is cut off can come again, and is as if it had never been.
func TestCutAndPutAgain(t *testing.T) {
	x := mixed(t)
	x.cut(0)
	x.same()
	for k := range 828 {
		if k%2 == 0 {
			x.put(k, filled(byte(1+k%200)))
		}
	}
	x.move(1, 2)
	x.same()
	x.cut(414)
	x.cut(700)
	x.same()
	x.put(827, one(3, 3))
	x.place(827, 3)
	x.same()
}

// A map without blocks stays one.
func TestCutOfNothing(t *testing.T) {
	for _, n := range append(nowheres(), 0, 1, 827) {
		x := both(t)
		x.m.Cut(n)
		x.same()
	}
}
