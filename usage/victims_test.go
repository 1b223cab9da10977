package usage

import (
	"math"
	"slices"
	"testing"

	"moraine/api"
)

// Of nothing, and of one segment alone, there are no victims, whatever its count.
func TestVictimsOfNoneOrOne(t *testing.T) {
	for _, g := range geometries() {
		for _, counts := range [][]int{nil, {}, {0}, make([]int, g.Segs-1), make([]int, g.Segs), make([]int, g.Segs+9)} {
			takes(t, g, counts, nil)
		}
		for seg := range g.Segs {
			for _, n := range append(strange(), 1, placesOf(g)-1, placesOf(g), placesOf(g)+1) {
				counts := make([]int, g.Segs)
				counts[seg] = n
				takes(t, g, counts, nil)
			}
		}
	}
}

// Two are victims, if they have no more than D together.
func TestVictimsOfTwo(t *testing.T) {
	for _, g := range geometries() {
		d := placesOf(g)
		last := g.Segs - 1
		for n := 1; n <= d; n++ {
			for m := 1; m <= d+1; m++ {
				counts := make([]int, g.Segs)
				counts[0], counts[last] = n, m
				switch {
				case n+m > d:
					takes(t, g, counts, nil)
				case n <= m:
					takes(t, g, counts, nil, 0, last)
				default:
					takes(t, g, counts, nil, last, 0)
				}
			}
		}
	}
}

// As many are victims as have D together, or one less; the one that makes it one more isn't.
func TestVictimsAroundD(t *testing.T) {
	g := api.Geometry{Disks: 4, Rows: 3, Segs: 12} // D is 8
	takes(t, g, []int{1, 2, 5}, nil, 0, 1, 2)
	takes(t, g, []int{1, 2, 4}, nil, 0, 1, 2)
	takes(t, g, []int{1, 2, 6}, nil, 0, 1)
	takes(t, g, []int{4, 4}, nil, 0, 1)
	takes(t, g, []int{4, 5}, nil)
	takes(t, g, []int{3, 4}, nil, 0, 1)
	takes(t, g, []int{2, 2, 2, 2}, nil, 0, 1, 2, 3)
	takes(t, g, []int{2, 2, 2, 2, 2}, nil, 0, 1, 2, 3)
	takes(t, g, []int{2, 2, 2, 1}, nil, 3, 0, 1, 2)
	takes(t, g, []int{2, 2, 2, 3}, nil, 0, 1, 2)
	takes(t, g, ones(7), nil, 0, 1, 2, 3, 4, 5, 6)
	takes(t, g, ones(8), nil, 0, 1, 2, 3, 4, 5, 6, 7)
	takes(t, g, ones(9), nil, 0, 1, 2, 3, 4, 5, 6, 7)
}

// The first one that makes them too many is the end: none behind it is a victim, and none that has D or more by itself.
func TestVictimsWithLargeCounts(t *testing.T) {
	for _, g := range geometries() {
		d := placesOf(g)
		for _, n := range []int{d, d + 1, math.MaxInt - 1, math.MaxInt} {
			takes(t, g, []int{n, n}, nil)
			takes(t, g, []int{n, 1}, nil)
			takes(t, g, []int{1, n}, nil)
			takes(t, g, []int{n, 0, n, n, n}, nil)
			takes(t, g, slices.Repeat([]int{n}, g.Segs), nil)
		}
	}
	g := small()
	takes(t, g, []int{5, 2, 3, 5, math.MaxInt}, nil, 1, 2)
	takes(t, g, []int{2, 2, 2}, nil, 0, 1)
	takes(t, g, []int{1, 3, 3, 1}, nil, 0, 3, 1)
	takes(t, g, []int{1, math.MaxInt, math.MaxInt, 1, math.MaxInt}, nil, 0, 3)
	takes(t, g, []int{math.MaxInt, math.MaxInt - 2, 4}, nil)
}

// Where D is 1, no two have so little.
func TestVictimsWithOnePlace(t *testing.T) {
	for _, g := range []api.Geometry{{Disks: 3, Rows: 1, Segs: 56}, {Disks: 3, Rows: 1, Segs: 64}} {
		for n := range g.Segs + 1 {
			takes(t, g, ones(n), nil)
		}
	}
}

// Victims are told by rising counts; those whose counts are alike by their numbers.
func TestVictimsInOrder(t *testing.T) {
	g := api.Geometry{Disks: 16, Rows: 4, Segs: 64} // D is 59
	takes(t, g, []int{9, 3, 7, 1, 8}, nil, 3, 1, 2, 4, 0)
	takes(t, g, []int{9, 3, 9, 3, 0, 3, 9, 9}, nil, 1, 3, 5, 0, 2, 6, 7)
	takes(t, g, []int{20, 19, 20, 20}, nil, 1, 0, 2)
	takes(t, g, ones(64), nil, segsOf(g)[:59]...)
	// One that has less comes ahead of many that are alike.
	counts := slices.Repeat([]int{2}, 64)
	counts[63] = 1
	takes(t, g, counts, nil, append([]int{63}, segsOf(g)[:29]...)...)
	counts[63] = 3
	takes(t, g, counts, nil, segsOf(g)[:29]...)
	// 15 times 1, 15 times 2: 45 together; of 3 each four more come to 57.
	for i := range counts {
		counts[i] = 4 - i/16
	}
	takes(t, g, counts, []int{63, 47}, append(append(append([]int{}, segsOf(g)[48:63]...), segsOf(g)[32:47]...), 16, 17, 18, 19)...)
}

// A count of 0 or below has nothing to clean.
func TestVictimsWithoutUse(t *testing.T) {
	g := small()
	takes(t, g, []int{0, 1, 0, 2, 0}, nil, 1, 3)
	takes(t, g, []int{-1, 1, -5, 2, math.MinInt}, nil, 1, 3)
	takes(t, g, []int{-1, 1, -5, 5, math.MinInt}, nil)
	takes(t, g, []int{-1, -2, 0, 3}, nil)
	takes(t, g, []int{-1, -1, -1, -1}, nil)
	takes(t, g, []int{-3, 4, 4}, nil)
}

// Fewer counts than segments: the others have none; more: these are no segments'.
func TestVictimsOfFewerAndMoreCounts(t *testing.T) {
	for _, g := range geometries() {
		if placesOf(g) < 2 {
			continue
		}
		counts := append(slices.Repeat([]int{placesOf(g)}, g.Segs), ones(80)...)
		takes(t, g, counts, nil)
		counts[g.Segs-1] = 1
		takes(t, g, counts, nil)
		counts[g.Segs-2] = 1
		takes(t, g, counts, nil, g.Segs-2, g.Segs-1)
		takes(t, g, counts[:g.Segs], nil, g.Segs-2, g.Segs-1)
		takes(t, g, counts[:g.Segs-1], nil)
	}
	g := small()
	for n := range 30 {
		var want []int
		if n >= 2 {
			want = segsOf(g)[:min(n, 5)]
		}
		takes(t, g, ones(n), nil, want...)
	}
	takes(t, g, append(make([]int, 12), ones(9)...), nil)
}

// One that is taken is no victim, and has no part in what they have together; what is no segment takes none.
func TestVictimsOfTaken(t *testing.T) {
	g := small()
	four := []int{2, 0, 3, 4, 1}
	for _, c := range []struct{ taken, want []int }{
		{nil, []int{4, 0}}, {[]int{}, []int{4, 0}}, {[]int{1}, []int{4, 0}}, {[]int{11, 5}, []int{4, 0}},
		{[]int{4}, []int{0, 2}}, {[]int{4, 4, 4}, []int{0, 2}}, {[]int{0}, []int{4, 2}}, {[]int{0, 2}, []int{4, 3}}, {[]int{2, 0, 2, 0}, []int{4, 3}},
		{[]int{4, 0}, nil}, {[]int{4, 2}, nil}, {[]int{0, 2, 3}, nil}, {[]int{0, 2, 3, 4}, nil}, {segsOf(g), nil},
		{[]int{3}, []int{4, 0}}, {[]int{2}, []int{4, 0}},
	} {
		takes(t, g, four, c.taken, c.want...)
		takes(t, g, four, append(append(strange(), 12, 13), c.taken...), c.want...)
		takes(t, g, four, append(slices.Clone(c.taken), append(strange(), 12, 13)...), c.want...)
	}
	for _, g := range geometries() {
		takes(t, g, ones(g.Segs), segsOf(g))
		for seg := range g.Segs {
			var want []int
			if placesOf(g) > 1 {
				all := without(segsOf(g), seg)
				want = all[:min(len(all), placesOf(g))]
			}
			takes(t, g, ones(g.Segs), []int{seg}, want...)
			takes(t, g, ones(g.Segs), without(segsOf(g), seg))
		}
	}
}

// Of a geometry that isn't right there are no victims.
func TestVictimsOfNoGeometry(t *testing.T) {
	for _, g := range wrong() {
		for _, counts := range [][]int{nil, {1, 1}, {1, 2, 3, 4}, ones(64), {0, 0}, {-1, -1}} {
			for _, taken := range [][]int{nil, {0}, {5, 6}} {
				takes(t, g, counts, taken)
			}
		}
	}
}

// All counts of 0 to D + 1 of five segments, against the plainest way, with some of them taken.
func TestVictimsOfShortLists(t *testing.T) {
	g := small()
	for n := range 7 * 7 * 7 * 7 * 7 {
		counts := []int{n % 7, n / 7 % 7, n / 49 % 7, n / 343 % 7, n / 2401}
		taken := [][]int{nil, {2}, {4, 0}}[n%3]
		takes(t, g, counts, taken, plainVictims(g, counts, taken)...)
	}
}

// inNeed: twice the segments that the counts' sum needs and 1 together.
func inNeed(g api.Geometry, counts []int) int {
	n := 0
	for room := 0; sum(counts...).Cmp(sum(room)) > 0; room += placesOf(g) {
		n++
	}
	return 2*n + 1
}

// cleanable holds counts against P9.4: where more are used than must be, there are victims. It tells whether there are.
func cleanable(t *testing.T, g api.Geometry, counts []int) bool {
	t.Helper()
	above := 0
	for _, n := range counts {
		above += min(n, 1)
	}
	there := len(Victims(g, counts, nil)) >= 2
	if above > inNeed(g, counts) && !there {
		t.Errorf("%v, %v: %d are used, and there are no victims", g, counts, above)
	}
	return there
}

// Counts of two kinds in turn, with another one ahead, of each number of segments.
func TestVictimsWhereMoreIsUsedThanMustBe(t *testing.T) {
	for _, g := range geometries() {
		d := placesOf(g)
		for n := range g.Segs + 1 {
			for a := range d + 1 {
				for _, b := range []int{a, d - a, d + 1 - a, 1, d} {
					for _, first := range []int{0, 1, a, d} {
						counts := make([]int, n)
						for i := range counts {
							counts[i] = []int{a, b}[i%2]
						}
						if n > 0 {
							counts[0] = first
						}
						cleanable(t, g, counts)
					}
				}
			}
		}
	}
}

// Where no more are used than twice what must be and 1 together, there may be no victims.
func TestWithoutVictimsAtTheBound(t *testing.T) {
	g := small()
	// D is 5: of seven segments with 3 each no two have so little; their 21 need five, and twice five and 1 are 11.
	if cleanable(t, g, slices.Repeat([]int{3}, 7)) {
		t.Error("there are victims")
	}
	// D is 59: of two segments with 29 and 31 the 60 need two.
	if cleanable(t, api.Geometry{Disks: 16, Rows: 4, Segs: 64}, []int{29, 31}) {
		t.Error("there are victims")
	}
	// One segment in use needs one, none needs none.
	if cleanable(t, g, []int{1}) || cleanable(t, g, nil) {
		t.Error("there are victims")
	}
	// Six with 1 each need two, and twice two and 1 are 5.
	if !cleanable(t, g, ones(6)) || inNeed(g, ones(6)) != 5 {
		t.Error("there are no victims")
	}
}
