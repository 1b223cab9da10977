package scan

import (
	"bytes"
	"slices"
	"testing"

	"moraine/api"
)

// puts holds what PutSummary answers against the plainest block, and what GetSummary tells of that against the summary.
func puts(t *testing.T, g api.Geometry, s api.Summary) {
	t.Helper()
	b, ok := PutSummary(g, s)
	if !ok || !same(b, plain(s)) {
		t.Errorf("%v: PutSummary(%v): %v, %v", g, s, b, ok)
	}
	if got, ok := GetSummary(g, b); !ok || got != s {
		t.Errorf("%v: GetSummary of PutSummary(%v): %v, %v", g, s, got, ok)
	}
	tells(t, g, plain(s), s)
}

// putsNone holds what PutSummary answers, and what GetSummary tells of such numbers, against noughts and false.
func putsNone(t *testing.T, g api.Geometry, s api.Summary) {
	t.Helper()
	if b, ok := PutSummary(g, s); ok || !same(b, api.Block{}) {
		t.Errorf("%v: PutSummary(%v): %v, %v", g, s, b, ok)
	}
}

// tells holds what GetSummary answers against a summary.
func tells(t *testing.T, g api.Geometry, b api.Block, want api.Summary) {
	t.Helper()
	if got, ok := GetSummary(g, b); !ok || got != want {
		t.Errorf("%v: GetSummary(%v): %v, %v, not %v", g, b, got, ok, want)
	}
}

// tellsNone holds what GetSummary answers against noughts and false.
func tellsNone(t *testing.T, g api.Geometry, b api.Block) {
	t.Helper()
	if got, ok := GetSummary(g, b); ok || got != (api.Summary{}) {
		t.Errorf("%v: GetSummary(%v): %v, %v", g, b, got, ok)
	}
}

// around are numbers at and beside a bound.
func around(n int) []int {
	return []int{n - 1, n, n + 1}
}

// each goes over summaries whose numbers are at, beside and far from their bounds.
func each(g api.Geometry, do func(api.Summary)) {
	d := places(g)
	counts := slices.Concat(around(0), around(2), around(g.Segs), strange())
	blocks := slices.Concat(around(0), around(d), strange())
	roots := slices.Concat(around(0), around(d), around(g.Segs*d), strange())
	for _, count := range counts {
		for _, i := range slices.Concat(around(0), around(count-1), strange()) {
			for _, n := range blocks {
				for _, root := range roots {
					do(api.Summary{Count: count, Index: i, Blocks: n, Root: root})
				}
			}
		}
	}
}

// Bytes that stand in the test itself.
func TestSummaryBytes(t *testing.T) {
	b, ok := PutSummary(api.Geometry{Disks: 16, Rows: 4, Segs: 64}, api.Summary{Count: 64, Index: 63, Blocks: 59, Root: 3776})
	want := append([]byte{83, 83, 64, 0, 63, 0, 59, 0, 192, 14}, make([]byte, 46)...)
	if !ok || b.Owner != 65535 || b.Index != 0 || !bytes.Equal(b.Data, want) {
		t.Error(b, ok)
	}
	b, ok = PutSummary(small(), api.Summary{Count: 3, Index: 1, Blocks: 5})
	want = append([]byte{83, 83, 3, 0, 1, 0, 5}, make([]byte, 49)...)
	if !ok || b.Owner != 65535 || b.Index != 0 || !bytes.Equal(b.Data, want) {
		t.Error(b, ok)
	}
}

// Each number at, beside and far from its bounds, in each geometry: what is right is put and told again, all else isn't.
func TestSummaryBounds(t *testing.T) {
	for _, g := range geometries() {
		good, bad := 0, 0
		each(g, func(s api.Summary) {
			if right(g, s) {
				puts(t, g, s)
				good++
			} else {
				putsNone(t, g, s)
				bad++
			}
		})
		if good < 50 || bad < 50 {
			t.Errorf("%v: %d summaries are right, %d aren't", g, good, bad)
		}
	}
}

// The edges, one by one, each beside summaries that are right.
func TestSummaryEdges(t *testing.T) {
	g := small()
	for _, c := range []struct {
		s    api.Summary
		want bool
	}{
		{api.Summary{Count: 0, Index: 0, Root: 1}, false},
		{api.Summary{Count: -1, Index: -2, Root: 1}, false},
		{api.Summary{Count: -1, Index: 0, Root: 0}, false},
		{api.Summary{Count: 1, Index: 0, Root: 1}, true},
		{api.Summary{Count: 16, Index: 15, Root: 1}, true},
		{api.Summary{Count: 17, Index: 16, Root: 1}, false},
		{api.Summary{Count: 17, Index: 0}, false},
		{api.Summary{Count: 3, Index: -1}, false},
		{api.Summary{Count: 3, Index: 0}, true},
		{api.Summary{Count: 3, Index: 1}, true},
		{api.Summary{Count: 3, Index: 2, Root: 1}, true},
		{api.Summary{Count: 3, Index: 3, Root: 1}, false},
		{api.Summary{Count: 3, Index: 3}, false},
		{api.Summary{Count: 3, Index: 1, Blocks: -1}, false},
		{api.Summary{Count: 3, Index: 1, Blocks: 5}, true},
		{api.Summary{Count: 3, Index: 1, Blocks: 6}, false},
		{api.Summary{Count: 3, Index: 2, Blocks: 5, Root: 80}, true},
		{api.Summary{Count: 3, Index: 2, Blocks: 6, Root: 80}, false},
		{api.Summary{Count: 3, Index: 2, Root: 81}, false},
		{api.Summary{Count: 3, Index: 2, Root: 0}, false},
		{api.Summary{Count: 3, Index: 2, Root: -1}, false},
		{api.Summary{Count: 1, Index: 0, Root: 0}, false},
		{api.Summary{Count: 3, Index: 1, Root: 1}, false},
		{api.Summary{Count: 3, Index: 0, Root: 80}, false},
		{api.Summary{Count: 3, Index: 0, Root: -1}, false},
		{api.Summary{}, false},
	} {
		if c.want {
			puts(t, g, c.s)
		} else {
			putsNone(t, g, c.s)
			tellsNone(t, g, plain(c.s))
		}
	}
}

// All small numbers as they may stand in a block, in two geometries.
func TestGetSummaryOfAllNumbers(t *testing.T) {
	for _, g := range []api.Geometry{small(), {Disks: 3, Rows: 3, Segs: 12}} {
		for count := range g.Segs + 3 {
			for i := range g.Segs + 3 {
				for blocks := range places(g) + 3 {
					for root := range g.Segs*places(g) + 3 {
						s := api.Summary{Count: count, Index: i, Blocks: blocks, Root: root}
						if right(g, s) {
							tells(t, g, plain(s), s)
						} else {
							tellsNone(t, g, plain(s))
						}
					}
				}
			}
		}
	}
}

// Of a geometry that isn't right no summary is.
func TestSummaryOfWrongGeometries(t *testing.T) {
	for _, g := range wrong() {
		for _, s := range []api.Summary{{}, alone(0), alone(1), {Count: 2}, {Count: 2, Blocks: 1}, {Count: 2, Index: 1, Root: 1}, {Count: g.Segs, Index: g.Segs - 1, Root: 1}} {
			putsNone(t, g, s)
			tellsNone(t, g, plain(s))
		}
		tellsNone(t, g, api.Block{})
	}
}

// What a summary is right of hangs on the geometry.
func TestSummaryOfAnotherGeometry(t *testing.T) {
	few, many := api.Geometry{Disks: 3, Rows: 1, Segs: 64}, api.Geometry{Disks: 16, Rows: 4, Segs: 64}
	for _, s := range []api.Summary{{Count: 1, Blocks: 2, Root: 1}, {Count: 1, Root: 65}} {
		puts(t, many, s)
		putsNone(t, few, s)
		tellsNone(t, few, plain(s))
	}
	s := api.Summary{Count: 17, Index: 3}
	puts(t, few, s)
	putsNone(t, small(), s)
	tellsNone(t, small(), plain(s))
}

// Each byte of a right one is another one: it tells what stands there, if that is right as well, else nothing.
func TestGetSummaryOfTurnedBytes(t *testing.T) {
	for _, g := range geometries() {
		last := g.Segs * places(g)
		for _, s := range []api.Summary{alone(1), alone(last), {Count: 2}, {Count: g.Segs, Index: g.Segs - 1, Blocks: places(g), Root: last}, {Count: 9, Index: 4, Blocks: 1}} {
			for at := range 56 {
				for other := range 255 {
					b := plain(s)
					b.Data[at] += byte(other + 1)
					told, ok := numbersOf(b.Data)
					if ok && right(g, told) {
						tells(t, g, b, told)
					} else {
						tellsNone(t, g, b)
					}
				}
			}
		}
	}
}

// numbersOf: what stands in a payload, by the plainest means, and whether it begins and ends as a summary's.
func numbersOf(data []byte) (api.Summary, bool) {
	s := api.Summary{Count: two(data[2:]), Index: two(data[4:]), Blocks: two(data[6:]), Root: two(data[8:])}
	return s, two(data) == 21331 && bytes.Equal(data[10:], make([]byte, 46))
}

// two: the number that two bytes tell.
func two(b []byte) int {
	return int(b[0]) + 256*int(b[1])
}

// A block of another length, also where what lacks would be noughts, is none.
func TestGetSummaryOfOtherLengths(t *testing.T) {
	s := api.Summary{Count: 3, Index: 2, Blocks: 4, Root: 17}
	for n := range 200 {
		b := plain(s)
		b.Data = append(b.Data, make([]byte, 200)...)[:n]
		if n == 56 {
			tells(t, small(), b, s)
		} else {
			tellsNone(t, small(), b)
		}
	}
	for _, data := range [][]byte{nil, {}, make([]byte, 56), bytes.Repeat([]byte{255}, 56), bytes.Repeat([]byte{83}, 56)} {
		tellsNone(t, small(), api.Block{Owner: 65535, Data: data})
	}
}

// A block of another Owner or another Index is none.
func TestGetSummaryOfOtherHeads(t *testing.T) {
	s := api.Summary{Count: 3, Index: 2, Blocks: 4, Root: 17}
	for _, n := range append(strange(), 1, 2, 56, 999, 65534, 65535, 65535+65536) {
		b := plain(s)
		b.Index = n
		tellsNone(t, small(), b)
		b = plain(s)
		b.Owner = n
		if n != 65535 {
			tellsNone(t, small(), b)
		}
	}
	b := plain(s)
	b.Owner = 0
	tellsNone(t, small(), b)
	tells(t, small(), plain(s), s)
}

// Another first number makes it none.
func TestGetSummaryOfOtherSigns(t *testing.T) {
	for n := range 65536 {
		b := plain(alone(80))
		copy(b.Data, plainly(n)[:2])
		if n == 21331 {
			tells(t, small(), b, alone(80))
		} else {
			tellsNone(t, small(), b)
		}
	}
}
