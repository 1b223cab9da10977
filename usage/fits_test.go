package usage

import (
	"math"
	"slices"
	"testing"

	"moraine/api"
)

// blocksFor are numbers of blocks that need just so many segments: the least and the greatest one.
func blocksFor(g api.Geometry, segs int) []int {
	if segs == 0 {
		return []int{0}
	}
	d := placesOf(g)
	return []int{(segs-1)*d + 1, segs * d}
}

// Noughts fit each right geometry: 1 is needed.
func TestFitsOfNoughts(t *testing.T) {
	for _, g := range geometries() {
		fits(t, true, g, nil, 0, 0, 0)
		fits(t, true, g, []int{}, 0, 0, 0)
		fits(t, true, g, make([]int, g.Segs), 0, 0, 0)
		fits(t, true, g, make([]int, g.Segs+9), 0, 0, 0)
	}
}

// Each number by itself, up to where it is too great and beyond, with segments in use or none.
func TestFitsOfOneNumber(t *testing.T) {
	for _, g := range geometries() {
		d := placesOf(g)
		for u := range g.Segs + 3 {
			fits(t, u+1 <= g.Segs, g, ones(u), 0, 0, 0)
			for n := range g.Segs + 3 {
				fits(t, u+max(n, 1) <= g.Segs, g, ones(u), n, 0, 0)
				for _, blocks := range blocksFor(g, n) {
					fits(t, u+n+1 <= g.Segs, g, ones(u), 0, blocks, 0)
					fits(t, u+2*n+1 <= g.Segs, g, ones(u), 0, 0, blocks)
				}
			}
			fits(t, u+2 <= g.Segs, g, ones(u), 0, 1, 0)
			fits(t, u+2 <= g.Segs, g, ones(u), 0, d, 0)
			fits(t, u+3 <= g.Segs, g, ones(u), 0, d+1, 0)
			fits(t, u+3 <= g.Segs, g, ones(u), 0, 0, 1)
			fits(t, u+3 <= g.Segs, g, ones(u), 0, 0, d)
			fits(t, u+5 <= g.Segs, g, ones(u), 0, 0, d+1)
		}
	}
}

// All of u, d, old and m of the smallest array and of one more: around Segs together, with each of the two sums the greater one, and both alike.
func TestFitsAroundSegs(t *testing.T) {
	for _, g := range []api.Geometry{small(), {Disks: 6, Rows: 1, Segs: 12}} {
		seen := make(map[[2]int]int)
		for n := range 14 * 14 * 14 * 8 {
			u, d, old, m := n%14, n/14%14, n/196%14, n/2744
			other := max(old+m, 2*m+1)
			for _, data := range blocksFor(g, d) {
				for _, more := range blocksFor(g, m) {
					fits(t, u+d+other <= g.Segs, g, ones(u), old, data, more)
				}
			}
			side := 0
			if old+m != 2*m+1 {
				side = (old - m - 1) / max(old-m-1, m+1-old)
			}
			seen[[2]int{side, u + d + other - g.Segs}]++
		}
		for side := -1; side <= 1; side++ {
			for beside := -1; beside <= 1; beside++ {
				if seen[[2]int{side, beside}] < 20 {
					t.Errorf("%v: the sums at %d, %d beside Segs: %d times", g, side, beside, seen[[2]int{side, beside}])
				}
			}
		}
	}
}

// By hand: 12 segments of 5 places.
func TestFitsByHand(t *testing.T) {
	g := small()
	for _, c := range []struct {
		counts          []int
		old, data, more int
		want            bool
	}{
		{[]int{5, 0, 3, 1}, 1, 6, 7, true},              // 3 in use, 2 for data, 5 for twice 2 and 1: 10
		{[]int{5, 0, 3, 1}, 1, 16, 7, true},             // 3, 4, 5: 12
		{[]int{5, 0, 3, 1}, 1, 20, 10, true},            // the same
		{[]int{5, 0, 3, 1}, 1, 21, 10, false},           // 3, 5, 5: 13
		{[]int{5, 0, 3, 1}, 1, 20, 11, false},           // 3, 4, 7: 14
		{[]int{5, 0, 3, 1}, 3, 20, 10, true},            // 3 and 2 are 5, as twice 2 and 1 are: 12
		{[]int{5, 0, 3, 1}, 4, 20, 10, false},           // 3, 4, 6: 13
		{[]int{5, 0, 3, 1}, 4, 15, 10, true},            // 3, 3, 6: 12
		{[]int{5, 0, 3, 1, 1}, 4, 15, 10, false},        // 4, 3, 6: 13
		{[]int{5, 0, 3, 1, 0}, 4, 15, 10, true},         // a count of 0 is none in use
		{ones(11), 1, 0, 0, true},                       // 11, 0, 1: 12
		{ones(11), 0, 0, 0, true},                       // the same
		{ones(11), 2, 0, 0, false},                      // 11, 0, 2: 13
		{ones(12), 0, 0, 0, false},                      // 12, 0, 1: 13
		{nil, 12, 0, 0, true},                           // 0, 0, 12: 12
		{nil, 0, 55, 0, true},                           // 0, 11, 1: 12
		{nil, 0, 56, 0, false},                          // 0, 12, 1: 13
		{nil, 0, 0, 25, true},                           // 0, 0, 11: 11
		{nil, 0, 5, 25, true},                           // 0, 1, 11: 12
		{nil, 0, 0, 26, false},                          // 0, 0, 13: 13
		{slices.Repeat([]int{1000}, 11), 1, 0, 0, true}, // how great a count is doesn't matter
	} {
		fits(t, c.want, g, c.counts, c.old, c.data, c.more)
	}
}

// No number may be below 0, not even if the others come to nothing.
func TestFitsBelow0(t *testing.T) {
	for _, g := range geometries() {
		for _, n := range []int{-1, -2, -g.Segs, -placesOf(g), -placesOf(g) - 1, -65536, -1 << 32, math.MinInt, math.MinInt + 1, math.MinInt / 2} {
			fits(t, false, g, nil, n, 0, 0)
			fits(t, false, g, nil, 0, n, 0)
			fits(t, false, g, nil, 0, 0, n)
			fits(t, false, g, nil, n, n, n)
			fits(t, false, g, nil, n, math.MaxInt, 0)
			fits(t, false, g, nil, math.MaxInt, 0, n)
			fits(t, false, g, nil, 0, n, math.MaxInt)
			for _, counts := range [][]int{{n}, {n, 0}, {0, n}, {1, n, 1}, {1, 1, n}, append(make([]int, g.Segs), n)} {
				fits(t, false, g, counts, 0, 0, 0)
				fits(t, false, g, counts, 1, 1, 1)
			}
		}
	}
}

// Numbers that are as great as can be are too great; sums of them, and what is rounded up of them, don't come round to small ones.
func TestFitsOfTheGreatest(t *testing.T) {
	great := []int{1 << 32, 1<<32 + 1, 1 << 61, 1 << 62, 1<<62 - 1, 1<<62 + 1, math.MaxInt/2 + 1, math.MaxInt / 2, math.MaxInt - 60, math.MaxInt - 4, math.MaxInt - 1, math.MaxInt}
	for _, g := range geometries() {
		for _, n := range great {
			for _, counts := range [][]int{nil, {1}, ones(g.Segs - 1), ones(1000)} {
				fits(t, false, g, counts, n, 0, 0)
				fits(t, false, g, counts, 0, n, 0)
				fits(t, false, g, counts, 0, 0, n)
				for _, m := range great {
					fits(t, false, g, counts, n, m, 0)
					fits(t, false, g, counts, n, 0, m)
					fits(t, false, g, counts, 0, n, m)
					fits(t, false, g, counts, n, m, n)
					fits(t, false, g, counts, n, m, m)
				}
			}
			// A count may be as great: it is one segment in use.
			fits(t, true, g, []int{n, n}, 0, 0, 0)
			fits(t, true, g, slices.Repeat([]int{n}, g.Segs-1), 1, 0, 0)
			fits(t, false, g, slices.Repeat([]int{n}, g.Segs), 0, 0, 0)
		}
	}
}

// Each count that is above 0 is one in use, also behind the last segment's.
func TestFitsOfMoreCounts(t *testing.T) {
	g := small()
	fits(t, true, g, append(make([]int, 12), ones(11)...), 0, 0, 0)
	fits(t, false, g, append(make([]int, 12), ones(12)...), 0, 0, 0)
	fits(t, false, g, ones(13), 0, 0, 0)
	fits(t, true, g, make([]int, 100000), 12, 0, 0)
	fits(t, false, g, ones(100000), 0, 0, 0)
}

// Nothing fits a geometry that isn't right.
func TestFitsOfNoGeometry(t *testing.T) {
	for _, g := range wrong() {
		for _, counts := range [][]int{nil, {}, {0}, {1, 2}} {
			fits(t, false, g, counts, 0, 0, 0)
			fits(t, false, g, counts, 1, 1, 1)
			fits(t, false, g, counts, -1, -1, -1)
			fits(t, false, g, counts, math.MaxInt, math.MaxInt, math.MaxInt)
			fits(t, false, g, counts, math.MinInt, math.MinInt, math.MinInt)
		}
	}
}
