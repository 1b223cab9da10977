package meta

import (
	"slices"
	"testing"

	"moraine/api"
)

// edges are the first and the last blocks that each kind of pointer tells.
func edges() []int {
	return []int{0, 1, 15, 16, 17, 43, 44, 45, 71, 72, 73, 99, 100, 799, 800, 826, 827}
}

// isCount: a right list has so many blocks.
func isCount(t *testing.T, want int, list []api.Inode) {
	t.Helper()
	if got := Count(wide(), list); got != want {
		t.Errorf("%v has %d blocks, not %d", short(list), got, want)
	}
	isList(t, wide(), list)
}

// pointing: how many pointers' blocks an address of this block alone needs.
func pointing(block int) int {
	switch {
	case block < 16:
		return 0
	case block < 44:
		return 1
	default:
		return 2
	}
}

// By hand.
func TestCountByHand(t *testing.T) {
	isCount(t, 4, []api.Inode{alone()})
	isCount(t, 5, withRoot(sized(2, 46368)))
	isCount(t, 5, withRoot(only(2, 15, 1)))
	isCount(t, 6, withRoot(only(2, 16, 1)))
	isCount(t, 6, withRoot(only(2, 43, 1)))
	isCount(t, 7, withRoot(only(2, 44, 1)))
	isCount(t, 7, withRoot(only(2, 71, 1)))
	isCount(t, 7, withRoot(only(2, 72, 1)))
	isCount(t, 7, withRoot(only(2, 827, 1)))
	isCount(t, 35, withRoot(file(2, from(1, 829)...)))
	isCount(t, 3+2*31, []api.Inode{{Ino: 1, Kind: 2, Links: 2, Size: 46368, Addrs: from(1, 829)}, file(2, from(1, 829)...)})
}

// An address at each place alone: of a file, of the root, at two of them.
func TestCountOfEachPlace(t *testing.T) {
	for k := range 828 {
		isCount(t, 5+pointing(k), withRoot(only(2, k, 9)))
		root := only(1, k, 9)
		root.Kind = 2
		isCount(t, 4+pointing(k), []api.Inode{root})
		if k%23 == 0 {
			isCount(t, 6+2*pointing(k), withRoot(only(2, k, 9), only(56, k, 9)))
		}
	}
}

// Each two places.
func TestCountOfTwoPlaces(t *testing.T) {
	for _, a := range edges() {
		for _, b := range edges() {
			x := file(2, make([]int, 828)...)
			x.Addrs[a], x.Addrs[b] = 5, 6
			isList(t, wide(), withRoot(x))
		}
	}
}

// As many addresses as there are, at each number.
func TestCountOfEachNumberOfAddresses(t *testing.T) {
	for n := range 829 {
		want := 5
		if n > 16 {
			want++
		}
		if n > 44 {
			want += 1 + (n-44+27)/28
		}
		isCount(t, want, withRoot(file(2, from(1, n+1)...)))
	}
}

// Noughts at the end of Addrs, and nothing but noughts.
func TestCountOfNoughts(t *testing.T) {
	for _, n := range append(edges(), 828) {
		isCount(t, 5, withRoot(file(2, make([]int, n)...)))
		for _, first := range edges() {
			if first < n {
				x := file(2, make([]int, n)...)
				x.Addrs[first] = 9
				isCount(t, 5+pointing(first), withRoot(x))
			}
		}
	}
}

// Lists of as many nodes as there can be, without and with all that they can have.
func TestCountOfManyNodes(t *testing.T) {
	for n := 1; n < 57; n++ {
		list := []api.Inode{alone()}
		for ino := 2; ino <= n; ino++ {
			list = append(list, file(ino, from(1, ino*10)...))
		}
		isCount(t, plainCount(wide(), list), list)
		for i := range list {
			list[i].Addrs = nil
		}
		isCount(t, n+3, list)
	}
	var list []api.Inode
	for ino := 1; ino < 57; ino++ {
		list = append(list, file(ino, from(1, 829)...))
	}
	list[0].Kind = 2
	isCount(t, 56*31+3, list)
}

// Of lists that aren't right: none.
func TestCountOfWrongLists(t *testing.T) {
	for _, list := range [][]api.Inode{nil, {sized(1, 0)}, withRoot(alone()), withRoot(sized(57, 0)), withRoot(file(2, 3777)), withRoot(file(2, -1))} {
		noList(t, wide(), list)
	}
	for _, g := range notShapes() {
		noList(t, g, rich())
	}
	isList(t, wide(), rich())
}

// The order of the blocks, each one's Owner and Index, by hand.
func TestBuildOrderByHand(t *testing.T) {
	x := only(2, 72, 6)
	x.Addrs[16], x.Addrs[44] = 4, 5
	x.Addrs[3] = 3
	list := []api.Inode{{Ino: 1, Kind: 2, Links: 3, Size: 20 * 56, Addrs: append(make([]int, 19), 9)}, x, sized(29, 258)}
	blocks, ok := Build(wide(), list, from(101, 112))
	want := []api.Block{
		{Owner: 1, Index: 1000, Data: twos(0, 0, 0, 9)},
		{Owner: 1, Index: 999, Data: slices.Concat([]byte{2, 3, 0, 96, 4, 0, 0}, make([]byte, 32), []byte{101, 0}, make([]byte, 15))},
		{Owner: 2, Index: 1000, Data: twos(4)},
		{Owner: 2, Index: 1001, Data: twos(5)},
		{Owner: 2, Index: 1002, Data: twos(6)},
		{Owner: 2, Index: 1100, Data: twos(104, 105)},
		{Owner: 2, Index: 999, Data: slices.Concat([]byte{1, 1, 0, 248, 15, 0, 0}, make([]byte, 6), []byte{3, 0}, make([]byte, 24), []byte{103, 0, 106, 0}, make([]byte, 13))},
		{Owner: 29, Index: 999, Data: padded([]byte{1, 1, 0, 2, 1, 0, 0})},
		{Owner: 0, Index: 1, Data: twos(102, 107)},
		{Owner: 0, Index: 2, Data: twos(108)},
		{Owner: 0, Index: 0, Data: padded([]byte{82, 82, 109, 0, 110, 0})},
	}
	if !ok || !sameBlocks(blocks, want) {
		t.Errorf("%v, %v, not %v", blocks, ok, want)
	}
}

// Of each kind of node the blocks' Owners and Indexes, by hand.
func TestBuildOwnersAndIndexes(t *testing.T) {
	list := withRoot(file(9, from(1, 829)...))
	blocks, _ := Build(wide(), list, from(1, Count(wide(), list)+1))
	want := [][2]int{{1, 999}, {9, 1000}}
	for i := range 28 {
		want = append(want, [2]int{9, 1001 + i})
	}
	want = append(want, [2]int{9, 1100}, [2]int{9, 999}, [2]int{0, 1}, [2]int{0, 2}, [2]int{0, 0})
	var got [][2]int
	for _, b := range blocks {
		got = append(got, [2]int{b.Owner, b.Index})
		if len(b.Data) != 56 {
			t.Errorf("%v: %d bytes", b, len(b.Data))
		}
	}
	if !slices.Equal(got, want) {
		t.Errorf("%v, not %v", got, want)
	}
}

// Each Ino's record is told by its chart.
func TestBuildCharts(t *testing.T) {
	for ino := 2; ino < 57; ino++ {
		blocks, ok := Build(wide(), withRoot(sized(ino, 0)), []int{300, 3776, 1, 2, 3})
		if !ok || len(blocks) != 5 {
			t.Fatal(ino, blocks, ok)
		}
		one, other := make([]int, 56), blocks[2:4]
		one[0], one[ino-1] = 300, 3776
		if string(other[0].Data) != string(twos(one[:28]...)) || string(other[1].Data) != string(twos(one[28:]...)) {
			t.Errorf("Ino %d: %v", ino, other)
		}
	}
}

// notBuilt: of this list, which is right, nothing is built at these addresses.
func notBuilt(t *testing.T, g api.Geometry, list []api.Inode, at []int) {
	t.Helper()
	if blocks, ok := Build(g, list, at); ok || len(blocks) > 0 {
		t.Errorf("%v: blocks of %v at %v: %v, %v", g, short(list), at, blocks, ok)
	}
}

// With addresses too few and too many.
func TestBuildAtTooFewAndTooMany(t *testing.T) {
	for _, list := range [][]api.Inode{{alone()}, withRoot(sized(2, 0)), withRoot(only(2, 16, 1)), withRoot(only(2, 44, 1)), withRoot(only(56, 827, 1)), rich()} {
		g := wide()
		n := Count(g, list)
		for have := range n + 40 {
			if have != n {
				notBuilt(t, g, list, from(1, have+1))
			}
		}
		notBuilt(t, g, list, nil)
		notBuilt(t, g, list, from(1, 3777))
		notBuilt(t, g, list, append(from(1, n+1), 0))
		notBuilt(t, g, list, append(from(1, n+1), -1))
		areBlocks(t, g, list, from(1, n+1))
	}
}

// With one that is no address, at each place, for geometries of several shapes.
func TestBuildAtNowhere(t *testing.T) {
	for _, g := range shapes() {
		most := greatest(g)
		list := withRoot(only(2, 16, 1), only(7, 72, most), sized(30, 9))
		n := Count(g, list)
		for place := range n {
			for _, address := range append([]int{0, most + 1, most + 2}, far()...) {
				at := from(1, n+1)
				at[place] = address
				notBuilt(t, g, list, at)
			}
			for _, address := range []int{1, n, most - 1, most} {
				at := from(1, n+1)
				at[place] = address
				areBlocks(t, g, list, at)
			}
		}
	}
}

// The same address twice, at each two places, and all of them one.
func TestBuildAtTheSameAddress(t *testing.T) {
	g := shape(4, 2, 16)
	list := withRoot(only(2, 16, 1), only(7, 72, 80))
	n := Count(g, list)
	for a := range n {
		for b := range n {
			at := from(1, n+1)
			at[a] = at[b]
			areBlocks(t, g, list, at)
		}
	}
	areBlocks(t, g, list, slices.Repeat([]int{80}, n))
	areBlocks(t, g, list, slices.Repeat([]int{1}, n))
}

// At addresses that the nodes' data have, too.
func TestBuildAtTheDataOfNodes(t *testing.T) {
	list := withRoot(file(2, from(1, 829)...))
	areBlocks(t, wide(), list, from(1, 36))
	areBlocks(t, wide(), list, slices.Repeat([]int{828}, 35))
}

// Each number of a node at and beside its bounds, in the record's bytes.
func TestBuildNumbers(t *testing.T) {
	for _, kind := range []int{1, 2} {
		for _, links := range []int{1, 2, 255, 256, 257, 65534, 65535} {
			for _, size := range []int{0, 1, 55, 56, 57, 255, 256, 46367, 46368} {
				n := api.Inode{Ino: 4, Kind: kind, Links: links, Size: size}
				if size > 0 {
					n.Addrs = []int{257}
				}
				isList(t, wide(), withRoot(n))
				n.Ino = 1
				holds(t, wide(), []api.Inode{n})
			}
		}
	}
}

// The geometry hasn't a say in what the blocks are.
func TestBuildOfEachShape(t *testing.T) {
	list := withRoot(only(2, 20, 1), only(9, 100, 50), sized(56, 46368))
	for _, g := range shapes() {
		isList(t, g, list)
	}
}
