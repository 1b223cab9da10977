package inode

import (
	"math"
	"testing"

	"moraine/api"
)

// The edges of P14.3, by hand.
func TestPathAtTheEdges(t *testing.T) {
	for block, want := range map[int]path{
		0: {0, 0, 0, true}, 1: {0, 1, 0, true}, 14: {0, 14, 0, true}, 15: {0, 15, 0, true},
		16: {1, 0, 0, true}, 17: {1, 1, 0, true}, 42: {1, 26, 0, true}, 43: {1, 27, 0, true},
		44: {2, 0, 0, true}, 45: {2, 0, 1, true}, 70: {2, 0, 26, true}, 71: {2, 0, 27, true},
		72: {2, 1, 0, true}, 73: {2, 1, 1, true}, 99: {2, 1, 27, true}, 100: {2, 2, 0, true},
		799: {2, 26, 27, true}, 800: {2, 27, 0, true}, 826: {2, 27, 26, true}, 827: {2, 27, 27, true},
	} {
		isPath(t, want, block)
	}
	for _, block := range []int{
		828, 829, 855, 856, 1000, 46368, 65535, 65536, 1 << 31, 1 << 32, 1 << 62, math.MaxInt - 44, math.MaxInt - 1, math.MaxInt,
		-1, -2, -15, -16, -28, -44, -784, -828, -1 << 31, -1 << 32, -1 << 62, math.MinInt + 44, math.MinInt + 1, math.MinInt,
	} {
		isPath(t, path{}, block)
	}
}

// Each block that a file may have, and as many and more on each side.
func TestPathOfEachBlock(t *testing.T) {
	all := plainPaths()
	if len(all) != api.MaxBlocks {
		t.Fatal(len(all))
	}
	for block := -3000; block <= 70000; block++ {
		want := path{}
		if block >= 0 && block < len(all) {
			want = all[block]
		}
		isPath(t, want, block)
	}
}

// Numbers that end with a block's in fewer bytes aren't a block's.
func TestPathOfStrangeBlocks(t *testing.T) {
	for _, n := range []int{0, 1, 15, 16, 43, 44, 72, 827} {
		for _, block := range append(strange(n), n+1024, n+4096, n+65536, n-1024, n-65536) {
			isPath(t, path{}, block)
		}
	}
}

// No two blocks have one path, and each path is a block's.
func TestNoTwoBlocksHaveOnePath(t *testing.T) {
	seen := map[path]int{}
	for block := range 828 {
		p := pathOf(block)
		if was, has := seen[p]; has || !p.ok {
			t.Errorf("blocks %d and %d: %v", was, block, p)
		}
		seen[p] = block
	}
	for block, p := range plainPaths() {
		if got, has := seen[p]; !has || got != block {
			t.Errorf("%v: block %d, %v, not %d", p, got, has, block)
		}
	}
}

// A path's numbers are those of pointers that there are.
func TestPathsAreWithin(t *testing.T) {
	counts := [3]int{}
	for block := range 828 {
		p := pathOf(block)
		if p.by < 0 || p.by > 2 {
			t.Fatal(block, p)
		}
		counts[p.by]++
		if room := [3]int{16, 28, 28}[p.by]; p.first < 0 || p.first >= room || p.second < 0 || p.second >= 28 || p.by < 2 && p.second != 0 {
			t.Errorf("block %d: %v", block, p)
		}
	}
	if counts != [3]int{16, 28, 784} {
		t.Error(counts)
	}
}
