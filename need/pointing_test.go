package need

import (
	"slices"
	"testing"
)

// None: no pointers' block.
func TestPointingNone(t *testing.T) {
	points(t, 0)
	if n := Pointing([]int{}); n != 0 {
		t.Error(n)
	}
}

// Each number alone: below 16 none, below 44 one, below 828 two, from there on none.
func TestPointingOne(t *testing.T) {
	for k := -100; k < 1000; k++ {
		want := 0
		if k >= 16 && k < 828 {
			want = 1
		}
		if k >= 44 && k < 828 {
			want = 2
		}
		points(t, want, k)
		points(t, want, k, k)
		points(t, want, k, k, k, k, k)
	}
}

// The numbers at the edges.
func TestPointingEdges(t *testing.T) {
	for k, want := range map[int]int{-1: 0, 0: 0, 15: 0, 16: 1, 43: 1, 44: 2, 71: 2, 72: 2, 99: 2, 100: 2, 799: 2, 800: 2, 827: 2, 828: 0} {
		points(t, want, k)
	}
	points(t, 0, 0, 15)
	points(t, 1, 15, 16)
	points(t, 1, 16, 43)
	points(t, 3, 43, 44)
	points(t, 2, 44, 71)
	points(t, 3, 71, 72)
	points(t, 3, 44, 72)
	points(t, 4, 16, 44, 72)
	points(t, 3, 44, 827)
	points(t, 2, 800, 827)
	points(t, 3, 799, 800)
	points(t, 2, 827, 828)
	points(t, 1, 16, 828)
	points(t, 4, 16, 44, 827, 828)
}

// Numbers that count for nothing, alone, all together, and among others.
func TestPointingNothing(t *testing.T) {
	for _, k := range noBlocks() {
		points(t, 0, k)
		points(t, 0, k, k)
		points(t, 1, k, 16)
		points(t, 2, 827, k)
		points(t, 4, 16, k, 44, k, 72)
	}
	points(t, 0, noBlocks()...)
	points(t, 4, slices.Concat(noBlocks(), []int{72, 16, 44}, noBlocks())...)
}

// Each two numbers.
func TestPointingEachTwo(t *testing.T) {
	list := []int{-1, 0, 15, 16, 17, 30, 42, 43, 44, 45, 57, 58, 71, 72, 73, 99, 100, 127, 128, 435, 436, 463, 464, 771, 772, 799, 800, 826, 827, 828, 829, 1 << 32, 1<<32 + 44}
	for _, a := range list {
		for _, b := range list {
			points(t, plainPointing([]int{a, b}), a, b)
			for _, c := range list {
				points(t, plainPointing([]int{a, b, c}), a, b, c)
			}
		}
	}
}

// All numbers from one on, without another one.
func TestPointingAll(t *testing.T) {
	points(t, 0, from(0, 16)...)
	points(t, 1, from(16, 44)...)
	points(t, 1, from(0, 44)...)
	points(t, 29, from(44, 828)...)
	points(t, 30, from(16, 828)...)
	points(t, 30, from(0, 828)...)
	points(t, 30, from(-1000, 2000)...)
	points(t, 0, from(828, 2000)...)
	points(t, 2, from(44, 72)...)
	points(t, 3, from(44, 73)...)
	points(t, 3, from(43, 45)...)
	for end := range 850 {
		points(t, plainPointing(from(0, end)), from(0, end)...)
		points(t, plainPointing(from(end, 850)), from(end, 850)...)
	}
}

// Each number of the pointers' blocks from 44 on: one of their blocks each, the first, the last, one between.
func TestPointingMany(t *testing.T) {
	for n := 1; n <= 28; n++ {
		for _, within := range []int{0, 13, 27} {
			var list []int
			for i := range n {
				list = append(list, 44+28*i+within)
			}
			points(t, n+1, list...)
			points(t, n+2, append(list, 20)...)
		}
	}
}

// The list may be in any order: rising, falling, none.
func TestPointingOrder(t *testing.T) {
	for _, list := range [][]int{from(0, 828), from(16, 44), from(44, 828), {16, 44, 72, 827}, {-1, 15, 16, 828, 1 << 40}, from(30, 110)} {
		want := plainPointing(list)
		points(t, want, list...)
		falling := slices.Clone(list)
		slices.Reverse(falling)
		points(t, want, falling...)
		for step := range 200 {
			mixed := slices.Clone(list)
			for i := range mixed {
				// Each number goes to another place, by a fixed rule.
				j := (i*31 + step*17) % len(mixed)
				mixed[i], mixed[j] = mixed[j], mixed[i]
			}
			points(t, want, mixed...)
		}
	}
	points(t, 4, 100, 16, 44)
	points(t, 4, 44, 100, 16)
	points(t, 4, 16, 100, 44)
}

// A number may occur more than once: each block counts once.
func TestPointingTwice(t *testing.T) {
	points(t, 1, 16, 16)
	points(t, 1, 16, 43, 16, 43)
	points(t, 2, 44, 44, 44)
	points(t, 3, 44, 72, 44, 72, 44)
	points(t, 30, slices.Repeat(from(0, 828), 20)...)
	points(t, 1, slices.Repeat([]int{30}, 100000)...)
	points(t, 2, slices.Repeat([]int{500}, 100000)...)
	points(t, 0, slices.Repeat([]int{15}, 100000)...)
	for k := 16; k < 828; k++ {
		points(t, plainPointing([]int{k}), slices.Concat([]int{k, k}, from(0, 16), []int{k})...)
	}
}
