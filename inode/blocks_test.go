package inode

import (
	"math"
	"testing"

	"moraine/api"
)

// The edges of P14.1, by hand.
func TestBlocksAtTheEdges(t *testing.T) {
	for _, c := range [][2]int{
		{0, 0}, {1, 1}, {2, 1}, {55, 1}, {56, 1}, {57, 2}, {111, 2}, {112, 2}, {113, 3},
		{895, 16}, {896, 16}, {897, 17}, {2463, 44}, {2464, 44}, {2465, 45}, {46311, 827}, {46312, 827}, {46313, 828},
		{api.MaxSize - 57, 827}, {api.MaxSize - 56, 827}, {api.MaxSize - 55, 828}, {api.MaxSize - 1, 828}, {api.MaxSize, 828},
	} {
		isBlocks(t, c[1], c[0])
	}
	for _, size := range []int{
		api.MaxSize + 1, api.MaxSize + 55, api.MaxSize + 56, api.MaxSize + 57, 2 * api.MaxSize, 50000, 65535, 65536, 1 << 31, 1 << 32, 1 << 62, math.MaxInt - 56, math.MaxInt - 55, math.MaxInt - 1, math.MaxInt,
		-1, -2, -55, -56, -57, -112, -api.MaxSize, -api.MaxSize - 1, -1 << 31, -1 << 32, -1 << 62, math.MinInt + 56, math.MinInt + 1, math.MinInt,
	} {
		isBlocks(t, 0, size)
	}
}

// Each size that a file may have, and as many on each side.
func TestBlocksOfEachSize(t *testing.T) {
	for size := -46368; size <= 2*46368; size++ {
		isBlocks(t, plainBlocks(size), size)
	}
}

// Sizes that end with a file's in fewer bytes aren't its own.
func TestBlocksOfStrangeSizes(t *testing.T) {
	for _, n := range []int{0, 1, 55, 56, 57, 1000, 46367, 46368} {
		for _, size := range strange(n) {
			isBlocks(t, 0, size)
		}
	}
}

// So many blocks there are as bytes of them in all: one block less hasn't room for a size, so many have.
func TestBlocksHaveRoom(t *testing.T) {
	for size := range api.MaxSize + 1 {
		if n := Blocks(size); 56*n < size || 56*(n-1) >= size && n > 0 {
			t.Errorf("%d bytes: %d blocks", size, n)
		}
	}
}

// Each block of a size has a path, and the one behind the last block of MaxSize hasn't.
func TestBlocksHavePaths(t *testing.T) {
	for _, size := range []int{1, 56, 57, 896, 897, 2464, 2465, 46312, 46313, 46368} {
		for k := range Blocks(size) {
			isPath(t, plainPaths()[k], k)
		}
	}
	isPath(t, path{}, Blocks(api.MaxSize))
}
