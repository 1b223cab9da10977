package usage

import (
	"math"
	"math/big"
	"slices"
	"testing"

	"moraine/api"
)

// small is the geometry of the chapter's example: 12 segments of 5 places.
func small() api.Geometry {
	return api.Geometry{Disks: 3, Rows: 3, Segs: 12}
}

// geometries are the small one, and some at the bounds: the second one has the fewest places, the last one the most of all.
func geometries() []api.Geometry {
	return []api.Geometry{
		small(), {Disks: 3, Rows: 1, Segs: 56}, {Disks: 6, Rows: 1, Segs: 12}, {Disks: 4, Rows: 2, Segs: 16}, {Disks: 3, Rows: 1, Segs: 64}, {Disks: 16, Rows: 4, Segs: 12}, {Disks: 16, Rows: 4, Segs: 64},
	}
}

// wrong are geometries that aren't right: each number beside its bounds and far away, and one with too few places.
func wrong() []api.Geometry {
	return []api.Geometry{
		{}, {Disks: 2, Rows: 4, Segs: 64}, {Disks: 17, Rows: 2, Segs: 16}, {Disks: 4, Rows: 0, Segs: 16}, {Disks: 4, Rows: 5, Segs: 16}, {Disks: 4, Rows: 2, Segs: 11}, {Disks: 4, Rows: 2, Segs: 65}, {Disks: 3, Rows: 1, Segs: 55},
		{Disks: -4, Rows: -2, Segs: -16}, {Disks: math.MaxInt, Rows: 2, Segs: 16}, {Disks: 4, Rows: math.MinInt, Segs: 16}, {Disks: 4, Rows: 2, Segs: math.MaxInt}, {Disks: 4 + 1<<32, Rows: 2, Segs: 16}, {Disks: 4, Rows: 2, Segs: -1},
	}
}

// strange are numbers of which no segment, place or block has one; some are alike with small ones in their last bytes.
func strange() []int {
	return []int{-1, -2, -12, -65536, 1 << 32, 1<<32 + 1, 1 << 62, 1<<62 + 3, -1 << 62, math.MaxInt, math.MaxInt - 1, math.MaxInt - 12, math.MaxInt / 2, math.MaxInt/2 + 1, math.MinInt, math.MinInt + 1, math.MinInt / 2}
}

// placesOf: how many places a segment has.
func placesOf(g api.Geometry) int {
	return g.Rows*(g.Disks-1) - 1
}

// addressesOf are all addresses, rising.
func addressesOf(g api.Geometry) []int {
	var out []int
	for n := range g.Segs * placesOf(g) {
		out = append(out, n+1)
	}
	return out
}

// addressOf: a place's address.
func addressOf(g api.Geometry, seg, place int) int {
	return seg*placesOf(g) + place
}

// segsOf are all segments, rising.
func segsOf(g api.Geometry) []int {
	var out []int
	for seg := range g.Segs {
		out = append(out, seg)
	}
	return out
}

// without: a list without some numbers.
func without(list []int, out ...int) []int {
	return slices.DeleteFunc(slices.Clone(list), func(n int) bool { return slices.Contains(out, n) })
}

// ones: a count of 1 for each of so many segments.
func ones(n int) []int {
	return slices.Repeat([]int{1}, n)
}

// sum: what numbers come to together, however great they are.
func sum(ns ...int) *big.Int {
	total := new(big.Int)
	for _, n := range ns {
		total.Add(total, big.NewInt(int64(n)))
	}
	return total
}

// plainCount: what Count answers of a geometry that is right, by the plainest means: place by place.
func plainCount(g api.Geometry, addresses []int) ([]int, bool) {
	for _, a := range addresses {
		if a != 0 && !slices.Contains(addressesOf(g), a) {
			return nil, false
		}
	}
	counts := make([]int, g.Segs)
	for seg := range counts {
		for place := range placesOf(g) {
			if slices.Contains(addresses, addressOf(g, seg, place+1)) {
				counts[seg]++
			}
		}
	}
	return counts, true
}

// plainFree: what Free answers of a geometry that is right, by the plainest means: all segments but those that have something, and those that are taken.
func plainFree(g api.Geometry, counts, taken []int) []int {
	var out []int
	for seg, n := range counts {
		if n != 0 {
			out = append(out, seg)
		}
	}
	return without(segsOf(g), slices.Concat(out, taken)...)
}

// plainVictims: what Victims answers of a geometry that is right, by the plainest means: the least one of what is left, time and again.
func plainVictims(g api.Geometry, counts, taken []int) []int {
	var victims, had []int
	for {
		best := -1
		for seg := range min(g.Segs, len(counts)) {
			if counts[seg] > 0 && !slices.Contains(slices.Concat(taken, victims), seg) && (best < 0 || counts[seg] < counts[best]) {
				best = seg
			}
		}
		if best >= 0 {
			had = append(had, counts[best])
		}
		if best < 0 || sum(had...).Cmp(sum(placesOf(g))) > 0 {
			break
		}
		victims = append(victims, best)
	}
	if len(victims) == 1 {
		return nil
	}
	return victims
}

// needed: how many segments so many blocks need, by the plainest means: a whole number of segments that has room for them, while one less hasn't.
func needed(g api.Geometry, blocks *big.Int) *big.Int {
	segs, rest := new(big.Int).DivMod(blocks, sum(placesOf(g)), new(big.Int))
	if rest.Sign() > 0 {
		segs.Add(segs, sum(1))
	}
	return segs
}

// plainFits: what Fits answers of a geometry that is right, by the plainest means: with numbers that don't wrap round.
func plainFits(g api.Geometry, counts []int, old, data, more int) bool {
	u := sum()
	for _, n := range slices.Concat(counts, []int{old, data, more}) {
		if n < 0 {
			return false
		}
	}
	for _, n := range counts {
		if n > 0 {
			u.Add(u, sum(1))
		}
	}
	d, m := needed(g, sum(data)), needed(g, sum(more))
	first := new(big.Int).Add(sum(old), m)
	second := new(big.Int).Add(new(big.Int).Add(m, m), sum(1))
	if second.Cmp(first) > 0 {
		first = second
	}
	return first.Add(first, u).Add(first, d).Cmp(sum(g.Segs)) <= 0
}

// counts holds what Count answers against the counts that are wanted, and true.
func counts(t *testing.T, g api.Geometry, addresses []int, want ...int) {
	t.Helper()
	got, ok := Count(g, addresses)
	if !slices.Equal(got, want) || !ok {
		t.Errorf("Count(%v, %v): %v, %v, not %v", g, addresses, got, ok, want)
	}
}

// countsNothing holds what Count answers against none and false.
func countsNothing(t *testing.T, g api.Geometry, addresses []int) {
	t.Helper()
	if got, ok := Count(g, addresses); len(got) != 0 || ok {
		t.Errorf("Count(%v, %v): %v, %v, not none and false", g, addresses, got, ok)
	}
}

// frees holds what Free answers against the segments that are wanted.
func frees(t *testing.T, g api.Geometry, counts, taken []int, want ...int) {
	t.Helper()
	if got := Free(g, counts, taken); !slices.Equal(got, want) {
		t.Errorf("Free(%v, %v, %v): %v, not %v", g, counts, taken, got, want)
	}
}

// takes holds what Victims answers against the segments that are wanted.
func takes(t *testing.T, g api.Geometry, counts, taken []int, want ...int) {
	t.Helper()
	if got := Victims(g, counts, taken); !slices.Equal(got, want) {
		t.Errorf("Victims(%v, %v, %v): %v, not %v", g, counts, taken, got, want)
	}
}

// fits holds what Fits answers against what is wanted.
func fits(t *testing.T, want bool, g api.Geometry, counts []int, old, data, more int) {
	t.Helper()
	if got := Fits(g, counts, old, data, more); got != want {
		t.Errorf("Fits(%v, %v, %d, %d, %d): %v", g, counts, old, data, more, got)
	}
}

// The chapter's example.
func TestExample(t *testing.T) {
	takes(t, small(), []int{2, 0, 3, 4}, nil, 0, 2)
	// The same counts, from addresses: the segment 0 has 1 to 5, the segment 2 11 to 15, the segment 3 16 to 20.
	counts(t, small(), []int{1, 4, 12, 13, 15, 16, 17, 19, 20}, 2, 0, 3, 4, 0, 0, 0, 0, 0, 0, 0, 0)
	frees(t, small(), []int{2, 0, 3, 4}, nil, 1, 4, 5, 6, 7, 8, 9, 10, 11)
}
