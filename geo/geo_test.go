package geo

import (
	"math"
	"testing"

	"moraine/api"
)

// shape is a geometry of so many disks, rows and segments.
func shape(disks, rows, segs int) api.Geometry {
	return api.Geometry{Disks: disks, Rows: rows, Segs: segs}
}

// example is the geometry of the chapter's example.
func example() api.Geometry {
	return shape(4, 2, 16)
}

// rightOnes are all geometries that are right, by the plainest means.
func rightOnes() []api.Geometry {
	var out []api.Geometry
	for disks := 3; disks <= 16; disks++ {
		for rows := 1; rows <= 4; rows++ {
			for segs := 12; segs <= 64; segs++ {
				if g := shape(disks, rows, segs); plainQ(g)*plainD(g) >= 8 {
					out = append(out, g)
				}
			}
		}
	}
	return out
}

// plainD: how many sectors a segment has that are neither a row's parity nor the summary.
func plainD(g api.Geometry) int {
	n := -1
	for range g.Rows {
		for disk := range g.Disks {
			if disk > 0 {
				n++
			}
		}
	}
	return n
}

// plainQ: 1, and one for each eight segments.
func plainQ(g api.Geometry) int {
	n := 1
	for left := g.Segs; left >= 8; left -= 8 {
		n++
	}
	return n
}

// plainP: one for each three segments that are left of all.
func plainP(g api.Geometry) int {
	n := 0
	for left := g.Segs - 2 - plainQ(g) - plainQ(g); left >= 3; left -= 3 {
		n++
	}
	return n
}

// strange are numbers that are none of a small array, and some that are; sums and products of them wrap round.
func strange() []int {
	return []int{
		0, 1, 2, 3, 4, 5, 8, 12, 15, 16, 17, 63, 64, 65, 100, 6001,
		-1, -2, -3, -4, -5, -12, -16, -64, -80,
		1 << 16, 1 << 31, 1<<31 - 1, 1 << 32, 1<<32 + 1, 1<<32 + 4, 1 << 61, 1 << 62, 1<<62 + 4,
		-1 << 31, -1 << 32, -1<<32 + 4, -1 << 62,
		math.MaxInt, math.MaxInt - 1, math.MaxInt - 4, math.MaxInt - 15, math.MaxInt / 5, math.MaxInt/5 + 1,
		math.MinInt, math.MinInt + 1, math.MinInt + 5, math.MinInt + 16, math.MinInt / 5,
	}
}

// notRight are geometries with a number that is out of its bounds, or with too few places for all but data.
func notRight() []api.Geometry {
	out := []api.Geometry{
		{},
		// One below and one above each bound.
		shape(2, 2, 16), shape(17, 2, 16), shape(2, 4, 64), shape(17, 1, 12),
		shape(4, 0, 16), shape(4, 5, 16), shape(16, 0, 64), shape(3, 5, 12),
		shape(4, 2, 11), shape(4, 2, 65), shape(16, 4, 11), shape(3, 1, 65),
		// Q times D is below 8: just below, and further down.
		shape(3, 1, 55), shape(3, 1, 48), shape(3, 1, 47), shape(3, 1, 16), shape(3, 1, 12),
		shape(4, 1, 23), shape(4, 1, 16), shape(4, 1, 15), shape(4, 1, 12),
		shape(5, 1, 15), shape(5, 1, 12), shape(3, 2, 15), shape(3, 2, 12),
		// More than one is wrong.
		shape(0, 0, 64), shape(-4, -2, 16), shape(-4, 2, -16), shape(4, -2, -16), shape(-4, -2, -16),
	}
	for _, n := range strange() {
		if n < 3 || n > 16 {
			out = append(out, shape(n, 2, 16))
		}
		if n < 1 || n > 4 {
			out = append(out, shape(4, n, 16))
		}
		if n < 12 || n > 64 {
			out = append(out, shape(4, 2, n), shape(n, n, n))
		}
	}
	return out
}

// none holds the answers of Block and Parity against those where there is nothing.
func none(t *testing.T, what string, g api.Geometry, seg, n int, got api.Spot, ok bool) {
	t.Helper()
	if got != (api.Spot{}) || ok {
		t.Errorf("%s(%v, %d, %d): %v, %v", what, g, seg, n, got, ok)
	}
}

// nowhere holds Where of an address against the answer where there is none.
func nowhere(t *testing.T, g api.Geometry, address int) {
	t.Helper()
	if seg, place, ok := Where(g, address); seg != 0 || place != 0 || ok {
		t.Errorf("Where(%v, %d): %d, %d, %v", g, address, seg, place, ok)
	}
}

func TestExample(t *testing.T) {
	g := example()
	if !Right(g) {
		t.Fatal("not right")
	}
	if d := Places(g); d != 5 {
		t.Error("D:", d)
	}
	if p, q := Caps(g); p != 2 || q != 3 {
		t.Error("P, Q:", p, q)
	}
	if a := Address(g, 0, 1); a != 1 {
		t.Error("address:", a)
	}
	if spot, ok := Block(g, 0, 1); spot != (api.Spot{Disk: 1, Sector: 5}) || !ok {
		t.Error("spot:", spot, ok)
	}
}

func TestRightAtTheBounds(t *testing.T) {
	for _, g := range []api.Geometry{
		shape(3, 3, 12), shape(3, 4, 12), shape(3, 1, 64), shape(3, 4, 64),
		shape(16, 1, 12), shape(16, 4, 12), shape(16, 1, 64), shape(16, 4, 64),
		shape(4, 2, 12), shape(4, 2, 64), shape(4, 4, 16), shape(15, 3, 63),
	} {
		if !Right(g) {
			t.Errorf("%v: not right", g)
		}
	}
}

// Q times D is just 8, or the next number above that there can be.
func TestRightWithJustEnoughPlaces(t *testing.T) {
	for _, g := range []api.Geometry{
		shape(3, 1, 56), shape(3, 1, 57), shape(3, 1, 63),
		shape(4, 1, 24), shape(4, 1, 25), shape(4, 1, 31),
		shape(6, 1, 12), shape(6, 1, 15),
		shape(3, 1, 64), shape(5, 1, 16), shape(3, 2, 16), shape(3, 3, 12),
	} {
		if !Right(g) {
			t.Errorf("%v: not right", g)
		}
	}
}

func TestNotRight(t *testing.T) {
	for _, g := range notRight() {
		if Right(g) {
			t.Errorf("%v: right", g)
		}
	}
}

// All geometries in the bounds and a little beyond are right, or not, as the chapter's numbers tell.
func TestRightGoneOver(t *testing.T) {
	want := make(map[api.Geometry]int)
	for _, g := range rightOnes() {
		want[g]++
	}
	// 14 times 4 times 53 are in the bounds; of them those of 3 disks and 1 row are right from 56 segments on, of 4 and 1 from 24, of 5 and 1 and of 3 and 2 from 16.
	if len(want) != 2968-44-12-4-4 {
		t.Fatal(len(want), "are right")
	}
	for disks := -2; disks <= 20; disks++ {
		for rows := -2; rows <= 8; rows++ {
			for segs := -2; segs <= 80; segs++ {
				g := shape(disks, rows, segs)
				if Right(g) != (want[g] == 1) {
					t.Errorf("%v: %v", g, Right(g))
				}
			}
		}
	}
}

func TestNumbersOfGeometries(t *testing.T) {
	for _, c := range []struct {
		g                api.Geometry
		sectors, d, p, q int
	}{
		{shape(3, 3, 12), 41, 5, 2, 2},
		{shape(4, 2, 16), 37, 5, 2, 3},
		{shape(6, 1, 12), 17, 4, 2, 2},
		{shape(6, 1, 13), 18, 4, 2, 2},
		{shape(6, 1, 14), 19, 4, 2, 2},
		{shape(6, 1, 15), 20, 4, 3, 2},
		{shape(6, 1, 16), 21, 4, 2, 3},
		{shape(6, 1, 23), 28, 4, 5, 3},
		{shape(6, 1, 24), 29, 4, 4, 4},
		{shape(4, 1, 24), 29, 2, 4, 4},
		{shape(3, 1, 56), 61, 1, 12, 8},
		{shape(3, 1, 63), 68, 1, 15, 8},
		{shape(3, 1, 64), 69, 1, 14, 9},
		{shape(3, 4, 64), 261, 7, 14, 9},
		{shape(16, 1, 12), 17, 14, 2, 2},
		{shape(16, 4, 12), 53, 59, 2, 2},
		{shape(16, 4, 64), 261, 59, 14, 9},
	} {
		if n := Sectors(c.g); n != c.sectors {
			t.Errorf("Sectors(%v): %d, not %d", c.g, n, c.sectors)
		}
		if n := Places(c.g); n != c.d {
			t.Errorf("Places(%v): %d, not %d", c.g, n, c.d)
		}
		if p, q := Caps(c.g); p != c.p || q != c.q {
			t.Errorf("Caps(%v): %d, %d, not %d, %d", c.g, p, q, c.p, c.q)
		}
	}
}

func TestNumbersGoneOver(t *testing.T) {
	for _, g := range rightOnes() {
		if n := Sectors(g); n != 5+g.Rows*g.Segs {
			t.Errorf("Sectors(%v): %d", g, n)
		}
		if n := Places(g); n != plainD(g) {
			t.Errorf("Places(%v): %d", g, n)
		}
		if p, q := Caps(g); p != plainP(g) || q != plainQ(g) {
			t.Errorf("Caps(%v): %d, %d", g, p, q)
		}
	}
}

// Of a geometry that isn't right all answers are noughts, and false, whatever is asked of it.
func TestNothingOfOneThatIsNotRight(t *testing.T) {
	for _, g := range notRight() {
		if n := Sectors(g); n != 0 {
			t.Errorf("Sectors(%v): %d", g, n)
		}
		if n := Places(g); n != 0 {
			t.Errorf("Places(%v): %d", g, n)
		}
		if p, q := Caps(g); p != 0 || q != 0 {
			t.Errorf("Caps(%v): %d, %d", g, p, q)
		}
		for _, n := range strange() {
			nowhere(t, g, n)
			for _, seg := range []int{0, 1, 11, g.Segs - 1, -1, n} {
				spot, ok := Block(g, seg, n)
				none(t, "Block", g, seg, n, spot, ok)
				spot, ok = Parity(g, seg, n)
				none(t, "Parity", g, seg, n, spot, ok)
				if a := Address(g, seg, n); a != 0 {
					t.Errorf("Address(%v, %d, %d): %d", g, seg, n, a)
				}
			}
		}
	}
}
