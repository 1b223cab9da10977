package geo

import (
	"math"
	"testing"

	"moraine/api"
)

// The summary, block 0, has a spot, as the places have; of each row the parity goes down by a disk and comes round.
func TestSpotsOfTheFirstSegments(t *testing.T) {
	g := example()
	for seg, c := range [][]struct{ parity, sector, first, second, third int }{
		{{3, 5, 0, 1, 2}, {2, 6, 3, 0, 1}},
		{{1, 7, 2, 3, 0}, {0, 8, 1, 2, 3}},
		{{3, 9, 0, 1, 2}, {2, 10, 3, 0, 1}},
	} {
		for row, want := range c {
			if spot, ok := Parity(g, seg, row); spot != (api.Spot{Disk: want.parity, Sector: want.sector}) || !ok {
				t.Errorf("Parity of %d, %d: %v, %v", seg, row, spot, ok)
			}
			for i, disk := range []int{want.first, want.second, want.third} {
				if spot, ok := Block(g, seg, 3*row+i); spot != (api.Spot{Disk: disk, Sector: want.sector}) || !ok {
					t.Errorf("Block of %d, %d: %v, %v", seg, 3*row+i, spot, ok)
				}
			}
		}
	}
}

func TestSpotsAtTheEnds(t *testing.T) {
	for _, c := range []struct {
		g             api.Geometry
		last, lastRow int
		block, parity api.Spot
	}{
		{shape(4, 2, 16), 5, 1, api.Spot{Disk: 3, Sector: 36}, api.Spot{Disk: 0, Sector: 36}},
		{shape(3, 3, 12), 5, 2, api.Spot{Disk: 2, Sector: 40}, api.Spot{Disk: 0, Sector: 40}},
		{shape(3, 1, 56), 1, 0, api.Spot{Disk: 0, Sector: 60}, api.Spot{Disk: 1, Sector: 60}},
		{shape(16, 4, 64), 59, 3, api.Spot{Disk: 15, Sector: 260}, api.Spot{Disk: 0, Sector: 260}},
		{shape(16, 1, 12), 14, 0, api.Spot{Disk: 3, Sector: 16}, api.Spot{Disk: 4, Sector: 16}},
	} {
		seg := c.g.Segs - 1
		if spot, ok := Block(c.g, seg, c.last); spot != c.block || !ok {
			t.Errorf("%v, the last block: %v, %v", c.g, spot, ok)
		}
		if spot, ok := Parity(c.g, seg, c.lastRow); spot != c.parity || !ok {
			t.Errorf("%v, the last parity: %v, %v", c.g, spot, ok)
		}
	}
}

func TestAddresses(t *testing.T) {
	for _, c := range []struct {
		g                   api.Geometry
		seg, place, address int
	}{
		{example(), 0, 1, 1},
		{example(), 0, 5, 5},
		{example(), 1, 1, 6},
		{example(), 1, 5, 10},
		{example(), 15, 1, 76},
		{example(), 15, 5, 80},
		{shape(3, 1, 56), 0, 1, 1},
		{shape(3, 1, 56), 1, 1, 2},
		{shape(3, 1, 56), 55, 1, 56},
		{shape(16, 4, 64), 1, 59, 118},
		{shape(16, 4, 64), 63, 59, 3776},
	} {
		if a := Address(c.g, c.seg, c.place); a != c.address {
			t.Errorf("Address(%v, %d, %d): %d, not %d", c.g, c.seg, c.place, a, c.address)
		}
		if seg, place, ok := Where(c.g, c.address); seg != c.seg || place != c.place || !ok {
			t.Errorf("Where(%v, %d): %d, %d, %v", c.g, c.address, seg, place, ok)
		}
	}
}

// Block 0 is no place: it has no address, and the number that would be its one is the last place's of the segment ahead.
func TestTheSummaryHasNoAddress(t *testing.T) {
	for _, g := range rightOnes() {
		for seg := range g.Segs {
			if _, ok := Block(g, seg, 0); !ok {
				t.Errorf("Block(%v, %d, 0): none", g, seg)
			}
			if a := Address(g, seg, 0); a != 0 {
				t.Errorf("Address(%v, %d, 0): %d", g, seg, a)
			}
		}
	}
	if seg, place, ok := Where(example(), 5); seg != 0 || place != 5 || !ok {
		t.Error(seg, place, ok)
	}
}

// One below the first and one above the last of all that is numbered, of each right geometry.
func TestJustBeyondTheEnds(t *testing.T) {
	for _, g := range rightOnes() {
		d := plainD(g)
		for _, c := range [][2]int{{0, -1}, {0, d + 1}, {g.Segs - 1, -1}, {g.Segs - 1, d + 1}, {-1, 0}, {-1, d}, {g.Segs, 0}, {g.Segs, d}} {
			spot, ok := Block(g, c[0], c[1])
			none(t, "Block", g, c[0], c[1], spot, ok)
		}
		for _, c := range [][2]int{{0, -1}, {0, g.Rows}, {g.Segs - 1, -1}, {g.Segs - 1, g.Rows}, {-1, 0}, {-1, g.Rows - 1}, {g.Segs, 0}, {g.Segs, g.Rows - 1}} {
			spot, ok := Parity(g, c[0], c[1])
			none(t, "Parity", g, c[0], c[1], spot, ok)
		}
		for _, c := range [][2]int{{0, 0}, {0, d + 1}, {1, 0}, {g.Segs - 1, 0}, {g.Segs - 1, d + 1}, {-1, 1}, {-1, d}, {-1, d + 1}, {g.Segs, 0}, {g.Segs, 1}, {g.Segs, d}} {
			if a := Address(g, c[0], c[1]); a != 0 {
				t.Errorf("Address(%v, %d, %d): %d", g, c[0], c[1], a)
			}
		}
		for _, address := range []int{-1, 0, g.Segs*d + 1, g.Segs*d + d} {
			nowhere(t, g, address)
		}
	}
}

// Numbers that are far from all that is there: none of them wraps round into it.
func TestFarBeyondTheEnds(t *testing.T) {
	for _, g := range []api.Geometry{example(), shape(3, 1, 56), shape(3, 3, 12), shape(16, 4, 64)} {
		d := plainD(g)
		for _, seg := range strange() {
			for _, n := range strange() {
				inside := seg >= 0 && seg < g.Segs
				if spot, ok := Block(g, seg, n); ok != (inside && n >= 0 && n <= d) || !ok && spot != (api.Spot{}) {
					t.Errorf("Block(%v, %d, %d): %v, %v", g, seg, n, spot, ok)
				}
				if spot, ok := Parity(g, seg, n); ok != (inside && n >= 0 && n < g.Rows) || !ok && spot != (api.Spot{}) {
					t.Errorf("Parity(%v, %d, %d): %v, %v", g, seg, n, spot, ok)
				}
				if a := Address(g, seg, n); (a != 0) != (inside && n >= 1 && n <= d) {
					t.Errorf("Address(%v, %d, %d): %d", g, seg, n, a)
				}
			}
		}
		for _, address := range strange() {
			if address < 1 || address > g.Segs*d {
				nowhere(t, g, address)
			}
		}
	}
}

// A segment and a place below or above all that is there, whose address would come to one that is.
func TestNoAddressFromTwoWrongs(t *testing.T) {
	g := example()
	for _, c := range [][2]int{{-1, 6}, {-1, 10}, {1, -4}, {16, -79}, {math.MinInt, 1}, {1 << 62, 1}, {math.MinInt / 5, 5}} {
		if a := Address(g, c[0], c[1]); a != 0 {
			t.Errorf("Address of %d, %d: %d", c[0], c[1], a)
		}
	}
}

// All rows of each right geometry, one behind the other, told over by steps: the parity goes down from the last disk and comes round, the blocks go up from it and come round.
func TestSpotsGoneOver(t *testing.T) {
	for _, g := range rightOnes() {
		parity, sector := g.Disks-1, 5
		for seg := range g.Segs {
			k := 0
			for row := range g.Rows {
				if spot, ok := Parity(g, seg, row); spot != (api.Spot{Disk: parity, Sector: sector}) || !ok {
					t.Fatalf("Parity(%v, %d, %d): %v, %v", g, seg, row, spot, ok)
				}
				disk := parity
				for range g.Disks - 1 {
					disk++
					if disk == g.Disks {
						disk = 0
					}
					if spot, ok := Block(g, seg, k); spot != (api.Spot{Disk: disk, Sector: sector}) || !ok {
						t.Fatalf("Block(%v, %d, %d): %v, %v", g, seg, k, spot, ok)
					}
					k++
				}
				parity--
				if parity < 0 {
					parity = g.Disks - 1
				}
				sector++
			}
		}
	}
}

// seen are the spots of a segment's blocks and parities; it fails if one of them is none.
func seen(t *testing.T, g api.Geometry, seg int) []api.Spot {
	t.Helper()
	var out []api.Spot
	for k := range Places(g) + 1 {
		spot, ok := Block(g, seg, k)
		if !ok {
			t.Fatalf("Block(%v, %d, %d): none", g, seg, k)
		}
		out = append(out, spot)
	}
	for row := range g.Rows {
		spot, ok := Parity(g, seg, row)
		if !ok {
			t.Fatalf("Parity(%v, %d, %d): none", g, seg, row)
		}
		out = append(out, spot)
	}
	return out
}

// No two are at one spot, and all spots behind the reserved sectors have one: so a row's sectors are on all disks.
func TestEachSpotHasOne(t *testing.T) {
	for _, g := range rightOnes() {
		found := make([]int, g.Disks*Sectors(g))
		for seg := range g.Segs {
			for _, spot := range seen(t, g, seg) {
				if spot.Disk < 0 || spot.Disk >= g.Disks || spot.Sector < 5 || spot.Sector >= Sectors(g) {
					t.Fatalf("%v, %d: %v", g, seg, spot)
				}
				found[spot.Disk*Sectors(g)+spot.Sector]++
			}
		}
		for i, n := range found {
			want := 1
			if i%Sectors(g) < 5 {
				want = 0
			}
			if n != want {
				t.Fatalf("%v, disk %d, sector %d: %d", g, i/Sectors(g), i%Sectors(g), n)
			}
		}
	}
}

// A row's blocks and its parity have one sector's number, each on a disk of its own.
func TestARowIsOnAllDisks(t *testing.T) {
	for _, g := range rightOnes() {
		for seg := range g.Segs {
			for row := range g.Rows {
				parity, _ := Parity(g, seg, row)
				disks := 1 << parity.Disk
				for c := range g.Disks - 1 {
					spot, _ := Block(g, seg, row*(g.Disks-1)+c)
					if spot.Sector != parity.Sector {
						t.Fatalf("%v, %d, row %d: block %d is at %v", g, seg, row, c, spot)
					}
					disks |= 1 << spot.Disk
				}
				if disks != 1<<g.Disks-1 {
					t.Fatalf("%v, %d, row %d: disks %b", g, seg, row, disks)
				}
			}
		}
	}
}

// The addresses, by segments and places, are 1, 2 and so on up to Segs times D; each is told back.
func TestEachAddressIsOfOnePlace(t *testing.T) {
	for _, g := range rightOnes() {
		next := 1
		for seg := range g.Segs {
			for place := 1; place <= Places(g); place++ {
				if a := Address(g, seg, place); a != next {
					t.Fatalf("Address(%v, %d, %d): %d, not %d", g, seg, place, a, next)
				}
				if s, p, ok := Where(g, next); s != seg || p != place || !ok {
					t.Fatalf("Where(%v, %d): %d, %d, %v", g, next, s, p, ok)
				}
				next++
			}
		}
		if next-1 != g.Segs*plainD(g) {
			t.Fatalf("%v: %d addresses", g, next-1)
		}
	}
}

// What is answered hangs on the arguments alone: asked anew, with other geometries between, it is the same.
func TestAskedAnew(t *testing.T) {
	g := example()
	before := seen(t, g, 3)
	for _, other := range append(notRight(), shape(16, 4, 64), shape(3, 1, 56)) {
		Right(other)
		Sectors(other)
		Caps(other)
		Block(other, 3, 1)
		Parity(other, 3, 0)
		Where(other, Address(other, 3, 1))
	}
	for i, spot := range seen(t, g, 3) {
		if spot != before[i] {
			t.Errorf("%d: %v, not %v", i, spot, before[i])
		}
	}
}
