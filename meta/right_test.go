package meta

import (
	"math"
	"slices"
	"testing"

	"moraine/api"
)

// ends are the ends of the numbers, and some that end as right ones do in fewer bytes.
func ends(n int) []int {
	return []int{math.MinInt, math.MinInt + 1, math.MinInt + n, math.MaxInt - 1, math.MaxInt, n + 1<<32, n - 1<<32, n + 1<<16, n + 1<<48}
}

// By hand.
func TestRightByHand(t *testing.T) {
	g := shape(4, 2, 16)
	for _, list := range [][]api.Inode{
		{alone()},
		{{Ino: 1, Kind: 2, Links: 1, Size: 1, Addrs: []int{80}}},
		withRoot(sized(2, 0), sized(56, 46368)),
		withRoot(file(3, 1, 0, 80, 0)),
		withRoot(api.Inode{Ino: 7, Kind: 2, Links: 65535, Size: 57, Addrs: []int{0, 0}}),
	} {
		if !Right(g, list) {
			t.Errorf("%v isn't right", list)
		}
	}
	for _, list := range [][]api.Inode{
		nil,
		{},
		{{}},
		{sized(1, 0)},
		{{Ino: 1, Kind: 2}},
		{{Ino: 2, Kind: 2, Links: 2}},
		withRoot(alone()),
		withRoot(sized(3, 0), sized(2, 0)),
		withRoot(file(3, 1, 0, 81, 0)),
		withRoot(api.Inode{Ino: 7, Kind: 2, Links: 1, Size: 56, Addrs: []int{0, 0}}),
	} {
		if Right(g, list) {
			t.Errorf("%v is right", list)
		}
	}
}

// A geometry that isn't right has no right list.
func TestRightOfGeometries(t *testing.T) {
	lists := [][]api.Inode{{alone()}, withRoot(sized(2, 100)), withRoot(file(2, 0, 0)), withRoot(file(2, 1, 2)), nil}
	for _, list := range lists {
		for _, g := range notShapes() {
			noList(t, g, list)
		}
		for _, g := range shapes() {
			holds(t, g, list)
		}
	}
}

// Of each geometry around the right ones.
func TestRightOfEachGeometry(t *testing.T) {
	list := withRoot(file(2, 1))
	for disks := 2; disks < 18; disks++ {
		for rows := range 6 {
			for segs := 11; segs < 66; segs++ {
				g := shape(disks, rows, segs)
				if got, want := Right(g, list), plainIsGeo(g); got != want || (Count(g, list) == 5) != want {
					t.Errorf("%v: %v, %d, not %v", g, got, Count(g, list), want)
				}
			}
		}
	}
}

// From no nodes to more than there can be.
func TestRightByNumbersOfNodes(t *testing.T) {
	for n := range 60 {
		var list []api.Inode
		for i := range n {
			list = append(list, sized(i+1, i))
		}
		if n > 0 {
			list[0].Kind = 2
		}
		holds(t, wide(), list)
		if got := Right(wide(), list); got != (n >= 1 && n <= 56) {
			t.Errorf("%d nodes: %v", n, got)
		}
		if n > 1 {
			list[n-1].Ino = 56
			holds(t, wide(), list)
			list[n-1].Ino = n - 1
			noList(t, wide(), list)
		}
	}
}

// 57 nodes and more, two of which have one Ino.
func TestRightOfTooManyNodes(t *testing.T) {
	for _, twice := range []int{1, 2, 28, 29, 55, 56} {
		for _, more := range []int{1, 2, 44} {
			var list []api.Inode
			for ino := 1; ino < 57; ino++ {
				list = append(list, sized(ino, 0))
				for range more {
					if ino == twice {
						list = append(list, sized(ino, 0))
					}
				}
			}
			list[0].Kind = 2
			noList(t, wide(), list)
		}
	}
}

// Each two Inos behind the root's.
func TestRightByInos(t *testing.T) {
	g := shape(4, 2, 16)
	for a := -2; a < 60; a++ {
		for b := -2; b < 60; b++ {
			list := withRoot(sized(a, 0), sized(b, 5))
			if got, want := Right(g, list), a > 1 && b > a && b < 57; got != want {
				t.Errorf("Inos 1, %d, %d: %v", a, b, got)
			}
		}
	}
	for _, far := range ends(3) {
		noList(t, g, withRoot(sized(far, 0)))
		noList(t, g, withRoot(sized(2, 0), sized(far, 0)))
		noList(t, g, withRoot(sized(far, 0), sized(50, 0)))
	}
}

// Each Ino, and some far off, as the first one, of each kind.
func TestRightByFirstNode(t *testing.T) {
	g := shape(4, 2, 16)
	for _, ino := range append(from(-60, 60), ends(1)...) {
		for _, kind := range append(from(-2, 6), ends(2)...) {
			first := api.Inode{Ino: ino, Kind: kind, Links: 2}
			want := ino == 1 && kind == 2
			for _, list := range [][]api.Inode{{first}, {first, sized(56, 0)}} {
				if got := Right(g, list); got != want {
					t.Errorf("%v: %v", list, got)
				}
				holds(t, g, list)
			}
		}
	}
}

// Each Kind of another node than the first one.
func TestRightByKinds(t *testing.T) {
	for _, kind := range append(from(-3, 260), ends(1)...) {
		list := withRoot(sized(2, 0), api.Inode{Ino: 3, Kind: kind, Links: 1}, sized(4, 0))
		if got := Right(wide(), list); got != (kind == 1 || kind == 2) {
			t.Errorf("Kind %d: %v", kind, got)
		}
		holds(t, wide(), list)
	}
}

// Links of a file, a directory, the root.
func TestRightByLinks(t *testing.T) {
	for _, links := range slices.Concat(from(-3, 300), from(65533, 65540), ends(1), ends(0)) {
		want := links >= 1 && links <= 65535
		one, other, root := sized(2, 0), sized(3, 0), alone()
		one.Links, other.Links, root.Links = links, links, links
		other.Kind = 2
		for _, list := range [][]api.Inode{withRoot(one), withRoot(other), {root}} {
			if got := Right(wide(), list); got != want {
				t.Errorf("Links %d: %v", links, got)
			}
			holds(t, wide(), list)
		}
	}
}

// Sizes of a file, a directory, the root, without addresses.
func TestRightBySizes(t *testing.T) {
	for _, size := range slices.Concat(from(-60, 200), from(46300, 46480), []int{-65536, -46368, 65535, 65536, 65592, 1 << 24}, ends(1), ends(0)) {
		want := size >= 0 && size <= 46368
		one, other, root := sized(2, size), sized(3, size), alone()
		root.Size = size
		other.Kind = 2
		for _, list := range [][]api.Inode{withRoot(one), withRoot(other), {root}} {
			if got := Right(wide(), list); got != want {
				t.Errorf("Size %d: %v", size, got)
			}
			holds(t, wide(), list)
		}
	}
}

// As many addresses as blocks, at each number of blocks, fewer ones, and one more; with noughts and with others.
func TestRightByNumbersOfAddresses(t *testing.T) {
	for blocks := range 829 {
		for _, size := range []int{56 * blocks, 56*blocks - 1, 56*blocks - 55} {
			if size < 0 {
				continue
			}
			for _, n := range []int{0, 1, blocks - 1, blocks, blocks + 1} {
				if n < 0 {
					continue
				}
				for _, address := range []int{0, 9} {
					x := sized(2, size)
					x.Addrs = slices.Repeat([]int{address}, n)
					if got := Right(wide(), withRoot(x)); got != (n <= blocks) {
						t.Errorf("size %d, %d addresses: %v", size, n, got)
					}
				}
			}
		}
	}
	for _, more := range []int{829, 1000, 65536} {
		noList(t, wide(), withRoot(file(2, make([]int, more)...)))
		x := sized(2, 46368)
		x.Addrs = make([]int, more)
		noList(t, wide(), withRoot(x))
	}
}

// An address at and beside the bounds, at the first, at a middle and at the last place, of the first, a middle and the last node, for geometries of several shapes.
func TestRightByAddresses(t *testing.T) {
	for _, g := range shapes() {
		most := greatest(g)
		for _, address := range append([]int{0, 1, 2, most - 1, most, most + 1, most + 2, 2 * most}, far()...) {
			want := address >= 0 && address <= most
			for node := range 3 {
				for _, place := range []int{0, 1, 15, 16, 44, 50, 99} {
					list := []api.Inode{file(1, make([]int, 100)...), file(2, make([]int, 100)...), file(56, make([]int, 100)...)}
					list[0].Kind = 2
					list[node].Addrs[place] = address
					if got := Right(g, list); got != want {
						t.Errorf("%v: %d at place %d: %v", g, address, place, got)
					}
					if want {
						isList(t, g, list)
					} else {
						noList(t, g, list)
					}
				}
			}
		}
	}
}

// Each address of a geometry is one, and may be there twice.
func TestRightOfEachAddress(t *testing.T) {
	for _, g := range shapes() {
		for address := -5; address < 4000; address++ {
			want := address >= 0 && address <= greatest(g)
			if got := Right(g, withRoot(file(2, address, 0, address))); got != want {
				t.Errorf("%v: %d: %v", g, address, got)
			}
		}
	}
}

// Two things that are wrong don't make it right.
func TestRightOfTwoFaults(t *testing.T) {
	g := shape(4, 2, 16)
	faults := []func(*api.Inode){
		func(n *api.Inode) { n.Ino = 0 },
		func(n *api.Inode) { n.Ino = -1 },
		func(n *api.Inode) { n.Ino = 57 },
		func(n *api.Inode) { n.Kind = 0 },
		func(n *api.Inode) { n.Kind = 3 },
		func(n *api.Inode) { n.Links = 0 },
		func(n *api.Inode) { n.Links = 65536 },
		func(n *api.Inode) { n.Size = -1 },
		func(n *api.Inode) { n.Size = 46369 },
		func(n *api.Inode) { n.Addrs = []int{-1} },
		func(n *api.Inode) { n.Addrs = []int{81} },
		func(n *api.Inode) { n.Addrs = make([]int, 4) },
	}
	for node := range 3 {
		for i := range faults {
			for k := range faults[:i+1] {
				list := []api.Inode{alone(), file(2, 3, 0, 80), file(9, 3, 0, 80)}
				isList(t, g, list)
				faults[i](&list[node])
				faults[k](&list[node])
				noList(t, g, list)
			}
		}
	}
}
