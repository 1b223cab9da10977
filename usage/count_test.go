package usage

import (
	"slices"
	"testing"

	"moraine/api"
)

// Without an address each segment has a count, of 0; noughts are no addresses.
func TestCountOfNoAddress(t *testing.T) {
	for _, g := range geometries() {
		want := make([]int, g.Segs)
		for _, addresses := range [][]int{nil, {}, {0}, {0, 0}, make([]int, 300)} {
			counts(t, g, addresses, want...)
		}
	}
}

// Each place of each segment is counted where it is, by itself and among noughts, and once, however often it is there.
func TestCountOfEachPlace(t *testing.T) {
	for _, g := range geometries() {
		for seg := range g.Segs {
			want := make([]int, g.Segs)
			want[seg] = 1
			for place := 1; place <= placesOf(g); place++ {
				a := addressOf(g, seg, place)
				counts(t, g, []int{a}, want...)
				counts(t, g, []int{0, a, 0}, want...)
				counts(t, g, []int{a, a}, want...)
				counts(t, g, []int{a, 0, a, a, 0, a}, want...)
			}
		}
	}
}

// Places are counted together by their segments: the last one of a segment isn't the next one's.
func TestCountOfSome(t *testing.T) {
	g := api.Geometry{Disks: 4, Rows: 2, Segs: 16}
	counts(t, g, []int{1, 5, 6, 10, 11}, 2, 2, 1, 0, 0, 0, 0, 0, 0, 0, 0, 0, 0, 0, 0, 0)
	counts(t, g, []int{80, 5, 76, 5, 0, 75, 80, 5}, 1, 0, 0, 0, 0, 0, 0, 0, 0, 0, 0, 0, 0, 0, 1, 2)
	counts(t, small(), []int{60, 1, 60, 55, 1}, 1, 0, 0, 0, 0, 0, 0, 0, 0, 0, 1, 1)
}

// All places, in any order, each once or more often.
func TestCountOfAllPlaces(t *testing.T) {
	for _, g := range geometries() {
		all := addressesOf(g)
		want := slices.Repeat([]int{placesOf(g)}, g.Segs)
		counts(t, g, all, want...)
		counts(t, g, slices.Concat(all, []int{0}, all, all), want...)
		slices.Reverse(all)
		counts(t, g, all, want...)
		// All but the first one, which is the last one of this list.
		want[0]--
		counts(t, g, all[:len(all)-1], want...)
	}
}

// A list has to be without each number that is neither 0 nor an address, wherever that stands.
func TestCountOfWhatIsNoAddress(t *testing.T) {
	for _, g := range geometries() {
		last := g.Segs * placesOf(g)
		first := make([]int, g.Segs)
		first[0], first[g.Segs-1] = 1, 1
		counts(t, g, []int{1, last}, first...)
		for _, n := range append(strange(), last+1, last+2, -last, 2*last+1) {
			for _, addresses := range [][]int{{n}, {n, n}, {n, 0}, {0, n}, {n, 1, last}, {1, n, last}, {1, last, n}, {1, 1, n}, append(addressesOf(g), n)} {
				countsNothing(t, g, addresses)
			}
		}
	}
}

// What is an address in one geometry may be none in another one.
func TestCountHangsOnTheGeometry(t *testing.T) {
	g := small()
	for _, h := range []api.Geometry{{Disks: 3, Rows: 3, Segs: 13}, {Disks: 4, Rows: 3, Segs: 12}, {Disks: 3, Rows: 4, Segs: 12}} {
		countsNothing(t, g, []int{61})
		want := make([]int, h.Segs)
		want[60/placesOf(h)] = 1
		counts(t, h, []int{61}, want...)
	}
}

// Of a geometry that isn't right there are no counts, not even of no address.
func TestCountOfNoGeometry(t *testing.T) {
	for _, g := range wrong() {
		for _, addresses := range [][]int{nil, {}, {0}, {1}, {1, 2, 3}, {-1}, strange()} {
			countsNothing(t, g, addresses)
		}
	}
}

// Each list of up to four of some numbers, against the plainest way.
func TestCountOfShortLists(t *testing.T) {
	g := small()
	lists := [][]int{nil}
	for range 4 {
		for _, list := range lists {
			for _, n := range []int{0, 1, 5, 6, 60, 61, -1} {
				lists = append(lists, append(slices.Clone(list), n))
			}
		}
	}
	for _, list := range lists {
		if want, ok := plainCount(g, list); ok {
			counts(t, g, list, want...)
		} else {
			countsNothing(t, g, list)
		}
	}
}
