package meta

import (
	"slices"
	"testing"

	"moraine/api"
)

// again: what is built of a list is loaded again, wherever it is.
func again(t *testing.T, g api.Geometry, list []api.Inode) {
	t.Helper()
	built(t, g, list).loadsAgain()
	n := Count(g, list)
	builtAt(t, g, list, from(1, n+1)).loadsAgain()
	builtAt(t, g, list, from(greatest(g)-n+1, greatest(g)+1)).loadsAgain()
}

// Lists of each kind, in geometries of several shapes.
func TestAgainOfEachShape(t *testing.T) {
	for _, g := range shapes() {
		most := greatest(g)
		for _, list := range [][]api.Inode{
			{alone()},
			{{Ino: 1, Kind: 2, Links: 65535, Size: 46368, Addrs: []int{most}}},
			withRoot(sized(2, 0)),
			withRoot(sized(29, 46368)),
			withRoot(only(28, 15, most), only(29, 16, 1)),
			withRoot(only(2, 100, most), file(3, most, 0, most, 0, 0), only(56, 827, 1)),
		} {
			again(t, g, list)
		}
	}
	again(t, wide(), small())
	again(t, wide(), rich())
}

// An address at each place alone.
func TestAgainOfEachPlace(t *testing.T) {
	for k := range 828 {
		built(t, wide(), withRoot(only(1+k%55+1, k, 1+k))).loadsAgain()
	}
}

// Each number of addresses.
func TestAgainOfEachNumberOfAddresses(t *testing.T) {
	for n := range 829 {
		x := file(7, from(100, 100+n)...)
		built(t, wide(), withRoot(x)).loadsAgain()
		x.Size = min(46368, x.Size+n)
		built(t, wide(), withRoot(x)).loadsAgain()
	}
}

// Each Ino, and each two.
func TestAgainOfInos(t *testing.T) {
	for a := 2; a < 57; a++ {
		again(t, wide(), withRoot(sized(a, a)))
		for b := a + 1; b < 57; b++ {
			built(t, wide(), withRoot(sized(a, 1), only(b, b, a))).loadsAgain()
		}
	}
}

// All nodes, with all blocks, at as many different addresses.
func TestAgainOfTheMost(t *testing.T) {
	var list []api.Inode
	for ino := 1; ino < 57; ino++ {
		n := file(ino, from(ino, ino+828)...)
		n.Links = ino * 1000
		list = append(list, n)
	}
	list[0].Kind = 2
	again(t, wide(), list)
	for i := range list {
		list[i].Kind = 2
	}
	again(t, wide(), list)
}

// Blocks at all addresses that a geometry has.
func TestAgainAtAllAddresses(t *testing.T) {
	for _, g := range []api.Geometry{shape(3, 1, 56), shape(4, 2, 16), shape(3, 4, 12)} {
		most := greatest(g)
		var list []api.Inode
		for ino := 1; ino < 57 && ino+3 <= most; ino++ {
			list = append(list, sized(ino, ino))
		}
		list[0].Kind = 2
		// Each address of the block 16 needs a pointers' block.
		for i := range most - len(list) - 3 {
			list[i].Size, list[i].Addrs = 17*56, append(make([]int, 16), 1)
		}
		if n := Count(g, list); n != most {
			t.Errorf("%v: %d blocks, not %d", g, n, most)
		}
		again(t, g, list)
	}
}

// What is loaded is built again, with the same blocks.
func TestLoadedIsBuiltAgain(t *testing.T) {
	for _, list := range [][]api.Inode{{alone()}, small(), rich(), withRoot(file(9, 1, 0, 0), only(50, 827, 3))} {
		x := built(t, wide(), list)
		got, read, err := Load(x.g, x, x.root)
		if err != api.OK || len(read) != Count(x.g, got) {
			t.Fatal(err, len(read), Count(x.g, got))
		}
		var at []int
		for _, b := range plainBuild(list, func(int) int { return 0 }) {
			at = append(at, x.at(b.Owner, b.Index))
		}
		blocks, ok := Build(x.g, got, at)
		if want, _ := Build(x.g, list, at); !ok || !sameBlocks(blocks, want) {
			t.Errorf("%v: %v", short(list), ok)
		}
		slices.Sort(at)
		slices.Sort(read)
		if !slices.Equal(at, read) {
			t.Errorf("%v were read, not %v", read, at)
		}
	}
}

// From another address than the last one it isn't loaded.
func TestAgainFromOtherAddresses(t *testing.T) {
	x := built(t, wide(), small())
	for _, address := range x.order()[1:] {
		fails(t, x.g, x.disk, address, api.ErrCorrupt)
	}
	x.loadsAgain()
}

// Two images side by side on one disk.
func TestAgainOfTwo(t *testing.T) {
	one := builtAt(t, wide(), small(), from(1, 1+Count(wide(), small())))
	other := builtAt(t, wide(), rich(), from(500, 500+Count(wide(), rich())))
	for address, b := range other.bytes {
		one.bytes[address] = b
	}
	other.disk = one.disk
	one.loadsAgain()
	other.loadsAgain()
}
