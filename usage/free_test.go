package usage

import (
	"math"
	"slices"
	"testing"
)

// Without counts no segment has one: all are free.
func TestFreeOfNoCounts(t *testing.T) {
	for _, g := range geometries() {
		for _, counts := range [][]int{nil, {}, {0}, {0, 0, 0}, make([]int, g.Segs-1), make([]int, g.Segs), make([]int, g.Segs+9)} {
			frees(t, g, counts, nil, segsOf(g)...)
			frees(t, g, counts, []int{}, segsOf(g)...)
		}
	}
}

// Each segment by itself is free just with a count of 0.
func TestFreeByCount(t *testing.T) {
	for _, g := range geometries() {
		for seg := range g.Segs {
			for _, n := range append(strange(), 1, 2, placesOf(g), placesOf(g)+1) {
				counts := make([]int, g.Segs)
				counts[seg] = n
				frees(t, g, counts, nil, without(segsOf(g), seg)...)
				frees(t, g, counts[:seg+1], nil, without(segsOf(g), seg)...)
				// With a list that ends ahead of it, it has no count.
				frees(t, g, counts[:seg], nil, segsOf(g)...)
			}
		}
	}
}

// Fewer counts than segments: those behind them are free; more: these are no segments'.
func TestFreeOfFewerAndMoreCounts(t *testing.T) {
	g := small()
	for n := range 30 {
		var want []int
		for seg := n; seg < g.Segs; seg++ {
			want = append(want, seg)
		}
		frees(t, g, ones(n), nil, want...)
		frees(t, g, append(ones(n), 0, 0), nil, want...)
	}
	frees(t, g, append(ones(12), make([]int, 50)...), nil)
	frees(t, g, append(make([]int, 12), 1, 2, 3), nil, segsOf(g)...)
	frees(t, g, append(ones(11), 0), nil, 11)
	frees(t, g, append(ones(11), 0, 0), nil, 11)
}

// No segment is free that is taken; what is no segment takes none, and one that is taken twice is taken.
func TestFreeOfTaken(t *testing.T) {
	for _, g := range geometries() {
		none := append(strange(), g.Segs, g.Segs+1)
		frees(t, g, nil, none, segsOf(g)...)
		frees(t, g, nil, segsOf(g))
		frees(t, g, nil, slices.Concat(none, segsOf(g), segsOf(g)))
		for seg := range g.Segs {
			want := without(segsOf(g), seg)
			frees(t, g, nil, []int{seg}, want...)
			frees(t, g, nil, []int{seg, seg}, want...)
			frees(t, g, nil, slices.Concat(none, []int{seg}, none), want...)
			frees(t, g, nil, want, seg)
		}
	}
	g := small()
	frees(t, g, []int{2, 0, 3, 4}, []int{11, 4, 2, 4, 12}, 1, 5, 6, 7, 8, 9, 10)
	frees(t, g, []int{0, 1, 0, -1, 0}, []int{0, 3, 1}, 2, 4, 5, 6, 7, 8, 9, 10, 11)
}

// Free's answer is rising, in whatever order segments are taken.
func TestFreeIsRising(t *testing.T) {
	g := small()
	frees(t, g, []int{0, 5, 0, 5}, []int{10, 0, 7}, 2, 4, 5, 6, 8, 9, 11)
	frees(t, g, []int{0, 5, 0, 5}, []int{7, 10, 0}, 2, 4, 5, 6, 8, 9, 11)
}

// Of a geometry that isn't right no segment is free.
func TestFreeOfNoGeometry(t *testing.T) {
	for _, g := range wrong() {
		for _, counts := range [][]int{nil, {0}, {0, 1, 2}, make([]int, 64)} {
			for _, taken := range [][]int{nil, {0}, {5, 6}} {
				frees(t, g, counts, taken)
			}
		}
	}
}

// Who ranges over the segments may end it at any of them.
func TestSegmentsEndEarly(t *testing.T) {
	g := small()
	all := without(segsOf(g), 4)
	counts := []int{7, 8, -9}
	for n := range all {
		var got []int
		for seg, count := range segments(g, counts, []int{4}) {
			if want := append(counts, make([]int, 12)...)[seg]; count != want {
				t.Errorf("segment %d: %d, not %d", seg, count, want)
			}
			got = append(got, seg)
			if len(got) > n {
				break
			}
		}
		if !slices.Equal(got, all[:n+1]) {
			t.Errorf("%v, not %v", got, all[:n+1])
		}
	}
}

// Very many counts and taken ones, of which the most are no segment's.
func TestFreeOfVeryMany(t *testing.T) {
	g := small()
	counts := slices.Repeat([]int{math.MaxInt}, 100000)
	counts[3], counts[9], counts[50] = 0, 0, 0
	taken := slices.Repeat([]int{50}, 100000)
	frees(t, g, counts, taken, 3, 9)
	taken[99999] = 3
	frees(t, g, counts, taken, 9)
}
