package meta

import (
	"bytes"
	"math"
	"slices"
	"testing"

	"moraine/api"
)

// small is a list with a block of each kind, and few of them: a root, a file with a block by each way, a directory of the second chart.
func small() []api.Inode {
	x := file(2, make([]int, 101)...)
	for _, k := range []int{0, 15, 16, 43, 44, 71, 72, 100} {
		x.Addrs[k] = 3000 + k
	}
	return []api.Inode{
		{Ino: 1, Kind: 2, Links: 3, Size: 60, Addrs: []int{0, 9}}, x,
		{Ino: 40, Kind: 2, Links: 2, Size: 17 * 56, Addrs: append(make([]int, 16), 3776)},
	}
}

// nothingAsked: Load of this answers ErrCorrupt, and the Source isn't asked for anything.
func nothingAsked(t *testing.T, g api.Geometry, d *disk, root int) {
	t.Helper()
	fails(t, g, d, root, api.ErrCorrupt)
	if len(d.asked) > 0 {
		t.Errorf("%v: Load of %d asked for %v", g, root, d.asked)
	}
}

// By hand: bytes that nothing was built of.
func TestLoadByHand(t *testing.T) {
	d := diskOf(nil, nil)
	d.bytes[80] = padded([]byte{82, 82, 1, 0, 2, 0})
	d.bytes[1] = padded([]byte{10, 0, 0, 0, 11, 0})
	d.bytes[2] = twos(append(make([]int, 27), 12)...)
	d.bytes[10] = padded([]byte{2, 4, 1, 57, 0, 0, 0, 3, 0, 80})
	d.bytes[11] = slices.Concat([]byte{1, 255, 255, 184, 3, 0, 0}, make([]byte, 32), []byte{20, 0}, make([]byte, 15))
	d.bytes[12] = slices.Concat([]byte{2, 1, 0, 32, 181, 0, 0}, make([]byte, 34), []byte{20, 0}, make([]byte, 13))
	d.bytes[20] = twos(21)
	d.bytes[21] = twos(0, 0, 0, 5, 0, 0, 0)
	list, read, err := Load(shape(4, 2, 16), d, 80)
	want := []api.Inode{
		{Ino: 1, Kind: 2, Links: 260, Size: 57, Addrs: []int{3, 80}},
		{Ino: 3, Kind: 1, Links: 65535, Size: 952, Addrs: append(make([]int, 16), 21)},
		{Ino: 56, Kind: 2, Links: 1, Size: 46368, Addrs: append(make([]int, 47), 5)},
	}
	if err != api.OK || !sameList(list, want) || !slices.Equal(read, []int{80, 1, 2, 10, 11, 20, 12, 20, 21}) {
		t.Errorf("%v, %v, %v, not %v", list, read, err, want)
	}
	loads(t, shape(4, 2, 16), d, 80)
}

// The root at an address that is none.
func TestLoadOfARootNowhere(t *testing.T) {
	for _, g := range shapes() {
		x := built(t, g, []api.Inode{alone()})
		most := greatest(g)
		for _, root := range append([]int{0, most + 1, most + 2, 2 * most}, far()...) {
			if b := x.bytes[root]; b == nil {
				x.bytes[root], x.wrong[root] = x.bytes[x.root], api.OK
			}
			nothingAsked(t, g, x.disk, root)
			x.wrong[root] = api.ErrIO
			nothingAsked(t, g, x.disk, root)
		}
		x.loadsAgain()
	}
}

// The root at each address.
func TestLoadOfEachRoot(t *testing.T) {
	g := shape(4, 2, 16)
	for root := -5; root < 90; root++ {
		d := diskOf(nil, nil)
		d.bytes[root] = twos(21074, 7, 8)
		d.bytes[7], d.bytes[8], d.bytes[9] = twos(9), twos(), padded([]byte{2, 2, 0})
		if root == 7 || root == 8 || root == 9 {
			d.bytes[root] = twos(21074, 7, 8)
		}
		want := root >= 1 && root <= 80 && (root < 7 || root > 9)
		if err := loads(t, g, d, root); (err == api.OK) != want {
			t.Errorf("root at %d: %v", root, err)
		}
	}
}

// A geometry that isn't right.
func TestLoadOfGeometries(t *testing.T) {
	x := built(t, shape(4, 2, 16), []api.Inode{alone()})
	for _, g := range notShapes() {
		for _, root := range []int{x.root, 0, 1, -1, math.MaxInt} {
			nothingAsked(t, g, x.disk, root)
		}
		x.wrong[x.root] = api.ErrDead
		nothingAsked(t, g, x.disk, x.root)
		x.wrong[x.root] = api.OK
	}
	x.loadsAgain()
}

// What one geometry has built others load, as far as they have the addresses.
func TestLoadOfOtherGeometries(t *testing.T) {
	for _, g := range shapes() {
		x := built(t, g, withRoot(only(2, 50, greatest(g)), file(9, 1, 2)))
		for _, other := range shapes() {
			err := loads(t, other, x.disk, x.root)
			if (err == api.OK) != (greatest(other) >= greatest(g)) {
				t.Errorf("%v of %v: %v", other, g, err)
			}
		}
	}
}

// A Source that isn't there tells nothing.
func TestLoadOfNoSource(t *testing.T) {
	if list, read, err := Load(wide(), nil, 1); err != api.ErrCorrupt || len(list) > 0 || len(read) > 0 {
		t.Error(list, read, err)
	}
}

// An error of the Source at each block that is read; whatever error, and whatever bytes beside it.
func TestLoadErrorAtEachBlock(t *testing.T) {
	for _, list := range [][]api.Inode{{alone()}, small(), rich()} {
		x := built(t, wide(), list)
		order := x.order()
		for i, address := range order {
			for _, err := range []api.Errno{api.ErrDead, api.ErrIO, api.ErrCorrupt, api.ErrSector, 1, 99, -1, math.MaxInt, math.MinInt} {
				x.wrong[address] = err
				x.ends(err)
				if !slices.Equal(x.asked, order[:i+1]) {
					t.Errorf("asked for %v, not for %v", x.asked, order[:i+1])
				}
				was := x.bytes[address]
				for _, b := range [][]byte{nil, make([]byte, 56), make([]byte, 57)} {
					x.bytes[address] = b
					x.ends(err)
				}
				x.bytes[address] = was
			}
			x.wrong[address] = api.OK
		}
		x.loadsAgain()
	}
}

// Errors of the Source at other addresses aren't told.
func TestLoadErrorElsewhere(t *testing.T) {
	x := built(t, wide(), small())
	order := x.order()
	for address := -2; address < 3780; address++ {
		if !slices.Contains(order, address) {
			x.wrong[address] = api.ErrIO
		}
	}
	x.loadsAgain()
}

// Too few bytes, and too many, at each block that is read.
func TestLoadBytesOfEachBlock(t *testing.T) {
	for _, list := range [][]api.Inode{{alone()}, small(), rich()} {
		x := built(t, wide(), list)
		order := x.order()
		for i, address := range order {
			b := x.bytes[address]
			for _, other := range [][]byte{nil, {}, b[:1], b[:44], b[:55], append(slices.Clone(b), 0), append(slices.Clone(b), 7), slices.Concat(b, b), make([]byte, 55), make([]byte, 57), make([]byte, 64)} {
				x.turned(address, other, func() {
					x.ends(api.ErrCorrupt)
					if !slices.Equal(x.asked, order[:i+1]) {
						t.Errorf("asked for %v, not for %v", x.asked, order[:i+1])
					}
				})
			}
		}
		x.loadsAgain()
	}
}

// Each byte of the root turned: its number, its charts, what lies behind them.
func TestLoadRootTurned(t *testing.T) {
	x := built(t, wide(), small())
	for place := range 56 {
		for value := range 256 {
			b := slices.Clone(x.bytes[x.root])
			if b[place] == byte(value) {
				continue
			}
			b[place] = byte(value)
			x.turned(x.root, b, func() {
				if err := x.loads(); err != api.ErrCorrupt && !(place >= 2 && place < 6) {
					t.Errorf("byte %d is %d: %v", place, value, err)
				}
				if place < 2 || place >= 6 {
					x.ends(api.ErrCorrupt)
				}
			})
		}
	}
	for _, number := range []int{0, 21073, 21075, 65535, 82, 82 * 256, 21074 - 256} {
		x.set(x.root, 0, number, func() { x.ends(api.ErrCorrupt) })
	}
	x.loadsAgain()
}

// What is wrong in the root is told ahead of what is wrong with the charts.
func TestLoadRootAheadOfCharts(t *testing.T) {
	x := built(t, wide(), small())
	x.wrong[x.at(0, 1)], x.wrong[x.at(0, 2)] = api.ErrIO, api.ErrDead
	x.ends(api.ErrIO)
	for _, place := range []int{0, 1, 6, 7, 30, 55} {
		b := slices.Clone(x.bytes[x.root])
		b[place]++
		x.turned(x.root, b, func() { x.ends(api.ErrCorrupt) })
	}
}

// The root's pointers to the charts: none, no addresses, others' ones, one chart for both.
func TestLoadCharts(t *testing.T) {
	for _, g := range shapes() {
		x := built(t, g, withRoot(only(2, 50, 1), sized(40, 9)))
		most := greatest(g)
		for _, place := range []int{2, 4} {
			for _, p := range []int{0, most + 1, most + 2, 3777, 65534, 65535} {
				x.set(x.root, place, p, func() { x.ends(api.ErrCorrupt) })
			}
			for address := range most + 1 {
				x.set(x.root, place, address, func() { x.loads() })
			}
		}
		x.loadsAgain()
	}
	x := built(t, wide(), withRoot(sized(9, 8)))
	x.set(x.root, 4, x.at(0, 1), func() {
		list, read, err := Load(x.g, x, x.root)
		want := withRoot(sized(9, 8), alone(), sized(37, 8))
		want[2].Ino = 29
		one, record, other := x.at(0, 1), x.at(1, 999), x.at(9, 999)
		if err != api.OK || !sameList(list, want) || !slices.Equal(read, []int{x.root, one, one, record, other, record, other}) {
			t.Error(list, read, err)
		}
		x.loads()
	})
}

// Both charts are read ahead of all records.
func TestLoadChartsAheadOfRecords(t *testing.T) {
	x := built(t, wide(), small())
	x.wrong[x.at(1, 999)], x.wrong[x.at(0, 2)] = api.ErrIO, api.ErrDead
	x.ends(api.ErrDead)
	x.set(x.at(0, 1), 0, 65535, func() { x.ends(api.ErrDead) })
	x.set(x.at(0, 1), 2, 65535, func() { x.ends(api.ErrDead) })
	x.wrong[x.at(0, 2)] = api.OK
	x.set(x.at(0, 2), 54, 65535, func() { x.ends(api.ErrIO) })
	x.set(x.at(0, 1), 4, 65535, func() { x.ends(api.ErrIO) })
}

// Each pointer of both charts: none, no address, at the bounds, another record's.
func TestLoadChartPointers(t *testing.T) {
	for _, g := range shapes() {
		x := built(t, g, withRoot(only(2, 50, 1), sized(40, 9)))
		most := greatest(g)
		for place := range 56 {
			chart := x.at(0, 1+place/28)
			for _, p := range []int{0, 1, most, most + 1, 3777, 65535, x.at(1, 999), x.at(2, 999), x.at(40, 999), x.at(2, 1100), x.root, chart} {
				x.set(chart, place%28*2, p, func() { x.loads() })
			}
			for _, p := range []int{most + 1, 65535} {
				x.set(chart, place%28*2, p, func() { x.ends(api.ErrCorrupt) })
			}
		}
		x.loadsAgain()
	}
}

// Each byte of each kind of record turned.
func TestLoadRecordsTurned(t *testing.T) {
	x := built(t, wide(), append(small(), sized(41, 0), sized(42, 46368)))
	for _, ino := range []int{1, 2, 40, 41, 42} {
		record := x.at(ino, 999)
		for place := range 56 {
			for _, value := range []byte{0, 1, 2, 3, 15, 85, 128, 181, 254, 255} {
				b := slices.Clone(x.bytes[record])
				b[place] = value
				x.turned(record, b, func() { x.loads() })
			}
		}
	}
	x.loadsAgain()
}

// A record that isn't right, with its Single or Double where its size has no blocks for them: told ahead of the blocks that they tell.
func TestLoadRecordsThatAreNotRight(t *testing.T) {
	x := built(t, wide(), small())
	record := x.at(2, 999)
	for _, index := range []int{1000, 1100, 1001} {
		x.wrong[x.at(2, index)] = api.ErrIO
	}
	x.ends(api.ErrIO)
	for _, size := range []int{0, 1, 56, 15 * 56, 16 * 56, 16*56 - 1, 46369, 65535} {
		x.set(record, 3, size, func() { x.ends(api.ErrCorrupt) })
	}
	for _, size := range []int{16*56 + 1, 17 * 56, 44 * 56, 43*56 + 1} {
		x.set(record, singleAt, 0, func() {
			x.set(record, 3, size, func() { x.ends(api.ErrCorrupt) })
		})
		x.set(record, doubleAt, 0, func() {
			x.set(record, 3, size, func() { x.ends(api.ErrIO) })
		})
	}
	for _, size := range []int{44*56 + 1, 45 * 56, 46368} {
		x.set(record, 3, size, func() { x.ends(api.ErrIO) })
	}
	x.set(record, 0, 3, func() { x.ends(api.ErrCorrupt) })
	x.set(record, 1, 0, func() { x.ends(api.ErrCorrupt) })
	x.set(record, 5, 1, func() { x.ends(api.ErrCorrupt) })
	for place := 43; place < 55; place++ {
		x.set(record, place, 1, func() { x.ends(api.ErrCorrupt) })
		x.set(record, place, 256, func() { x.ends(api.ErrCorrupt) })
	}
}

// whole: an image of a root, and a file with all blocks.
func whole(t *testing.T) *image {
	t.Helper()
	return built(t, wide(), withRoot(file(7, from(1, 829)...)))
}

// pointerAt: where the pointer stands that tells a block of a file that has all of them.
func (x *image) pointerAt(ino, block int) (int, int) {
	switch {
	case block < 16:
		return x.at(ino, 999), ownAt + 2*block
	case block < 44:
		return x.at(ino, 1000), 2 * (block - 16)
	default:
		return x.at(ino, 1001+(block-44)/28), 2 * ((block - 44) % 28)
	}
}

// A pointer to data that is no address, at each of a file's blocks; and others.
func TestLoadDataPointers(t *testing.T) {
	x := whole(t)
	for k := range 828 {
		address, place := x.pointerAt(7, k)
		for _, p := range []int{3777, 65535} {
			x.set(address, place, p, func() { x.ends(api.ErrCorrupt) })
		}
		for _, p := range []int{0, 1, 3776} {
			x.set(address, place, p, func() {
				want := file(7, from(1, 829)...)
				want.Addrs[k] = p
				list, read, err := Load(x.g, x, x.root)
				if err != api.OK || !sameList(list, shortened(withRoot(want))) || !slices.Equal(read, x.order()) {
					t.Errorf("block %d at %d: %v, %v", k, p, short(list), err)
				}
			})
		}
	}
	x.loadsAgain()
}

// So for geometries of several shapes.
func TestLoadDataPointersOfEachShape(t *testing.T) {
	for _, g := range shapes() {
		most := greatest(g)
		x := file(2, make([]int, 101)...)
		for _, k := range []int{0, 15, 16, 43, 44, 71, 72, 100} {
			x.Addrs[k] = most
		}
		y := built(t, g, withRoot(x))
		for _, k := range []int{0, 15, 16, 43, 44, 71, 72, 100} {
			address, place := y.pointerAt(2, k)
			y.set(address, place, most+1, func() { y.ends(api.ErrCorrupt) })
			y.set(address, place, 1, func() {
				if err := y.loads(); err != api.OK {
					t.Error(g, k, err)
				}
			})
		}
		y.loadsAgain()
	}
}

// A pointer to data that tells a block behind the size's last one: each size's end, against the pointers right ahead of it and behind it.
func TestLoadDataBehindTheSize(t *testing.T) {
	x := built(t, wide(), withRoot(file(7, from(1, 829)...)))
	record := x.at(7, 999)
	for _, k := range []int{43, 44, 45, 71, 72, 73, 99, 100, 700, 826} {
		for _, size := range []int{56*k + 1, 56*k + 56} {
			x.set(record, 3, size, func() { x.ends(api.ErrCorrupt) })
		}
	}
	for k := 16; k < 828; k++ {
		y := file(7, make([]int, k+1)...)
		y.Addrs[16], y.Addrs[k] = 5, 9
		if k > 44 {
			y.Addrs[44] = 6
		}
		z := built(t, wide(), withRoot(y))
		record := z.at(7, 999)
		for _, d := range []int{-1, 0, 1, 2} {
			size := 56*k + d
			want := api.OK
			if d < 1 {
				want = api.ErrCorrupt
			}
			z.set(record, 3, size, func() {
				if err := z.loads(); err != want {
					t.Errorf("block %d, size %d: %v, not %v", k, size, err, want)
				}
			})
		}
	}
}

// Double's block tells a pointers' block all of whose blocks the size hasn't, or just has one of.
func TestLoadPointersBehindTheSize(t *testing.T) {
	for number := range 28 {
		first := 44 + 28*number
		x := file(7, make([]int, first+1)...)
		x.Addrs[44], x.Addrs[first] = 9, 9
		y := built(t, wide(), withRoot(x))
		record, double, last := y.at(7, 999), y.at(7, 1100), y.at(7, 1001+number)
		y.set(record, 3, 56*first+1, func() { y.loadsAgainBut(api.OK) })
		y.set(record, 3, 56*first, func() { y.ends(api.ErrCorrupt) })
		if number == 0 {
			continue
		}
		// The pointers' block behind the size may have no pointer, or another one's.
		y.set(last, 0, 0, func() {
			y.ends(api.ErrCorrupt)
			y.set(record, 3, 56*first, func() { y.ends(api.ErrCorrupt) })
		})
		y.set(double, 2*number, y.at(7, 1001), func() {
			y.loadsAgainBut(api.OK)
			y.set(record, 3, 56*first, func() { y.ends(api.ErrCorrupt) })
		})
		y.set(double, 2*number, 0, func() {
			y.set(record, 3, 56*first, func() { y.loadsAgainBut(api.OK) })
		})
		// It is read ahead of that.
		y.set(record, 3, 56*first, func() {
			y.wrong[last] = api.ErrIO
			y.ends(api.ErrIO)
			y.wrong[last] = api.OK
		})
	}
}

// Double's block tells a pointers' block without a pointer: that is wrong behind the node's last block, if the size has none of its blocks, and else behind all.
func TestLoadEmptyPointersBehindTheSize(t *testing.T) {
	for number := 1; number < 28; number++ {
		first := 44 + 28*number
		x := file(7, make([]int, first+1)...)
		x.Addrs[44], x.Addrs[first] = 9, 9
		y := built(t, wide(), withRoot(x, sized(8, 0)))
		y.wrong[y.at(8, 999)] = api.ErrIO
		y.set(y.at(7, 1001+number), 0, 0, func() {
			for _, c := range []struct {
				size int
				want api.Errno
			}{{44*56 + 1, api.ErrCorrupt}, {56*first - 1, api.ErrCorrupt}, {56 * first, api.ErrCorrupt}, {56*first + 1, api.ErrIO}, {56*first + 56, api.ErrIO}, {46368, api.ErrIO}} {
				y.set(y.at(7, 999), 3, c.size, func() { y.ends(c.want) })
			}
		})
	}
}

// loadsAgainBut: with its bytes as they are now it is loaded as in the plain way, with this answer.
func (x *image) loadsAgainBut(want api.Errno) {
	x.t.Helper()
	if err := x.loads(); err != want {
		x.t.Errorf("%v, not %v", err, want)
	}
}

// A pointers' block without a pointer: Single's, Double's, one of those that this one tells.
func TestLoadEmptyPointers(t *testing.T) {
	x := whole(t)
	for _, index := range append([]int{1000, 1100}, from(1001, 1029)...) {
		x.turned(x.at(7, index), make([]byte, 56), func() { x.ends(api.ErrCorrupt) })
	}
	for _, list := range [][]api.Inode{withRoot(only(2, 16, 1)), withRoot(only(2, 43, 1)), withRoot(only(2, 44, 1)), withRoot(only(2, 827, 1))} {
		y := built(t, wide(), list)
		for i, index := range append([]int{1000, 1100}, from(1001, 1029)...) {
			if address := y.where[[2]int{2, index}]; address != 0 {
				y.turned(address, make([]byte, 56), func() { y.ends(api.ErrCorrupt) })
				for place := range 28 {
					y.turned(address, twos(append(make([]int, place), y.root)...), func() {
						if err := y.loads(); i == 0 && place < len(list[1].Addrs)-16 && err != api.OK {
							t.Error(index, place, err)
						}
					})
				}
			}
		}
		y.loadsAgain()
	}
}

// A chart without pointers isn't wrong, the second one; with the first one there is no list.
func TestLoadEmptyCharts(t *testing.T) {
	x := built(t, wide(), small())
	x.turned(x.at(0, 2), make([]byte, 56), func() {
		list, _, err := Load(x.g, x, x.root)
		if err != api.OK || !sameList(list, small()[:2]) {
			t.Error(list, err)
		}
		x.loads()
	})
	x.turned(x.at(0, 1), make([]byte, 56), func() { x.ends(api.ErrCorrupt) })
	x.set(x.root, 2, x.at(0, 2), func() {
		x.turned(x.at(0, 2), make([]byte, 56), func() { x.ends(api.ErrCorrupt) })
	})
}

// A list that isn't right: Ino 1 isn't there, or is no directory.
func TestLoadOfWrongLists(t *testing.T) {
	x := built(t, wide(), small())
	x.set(x.at(0, 1), 0, 0, func() { x.ends(api.ErrCorrupt) })
	x.set(x.at(0, 1), 0, x.at(2, 999), func() { x.ends(api.ErrCorrupt) })
	x.set(x.at(0, 1), 0, x.at(40, 999), func() {
		if err := x.loads(); err != api.OK {
			t.Error(err)
		}
	})
	b := slices.Clone(x.bytes[x.at(1, 999)])
	b[0] = 1
	x.turned(x.at(1, 999), b, func() { x.ends(api.ErrCorrupt) })
	x.loadsAgain()
	// Not until all has been read.
	x.wrong[x.at(40, 1000)] = api.ErrIO
	x.turned(x.at(1, 999), b, func() { x.ends(api.ErrIO) })
	x.set(x.at(0, 1), 0, 0, func() { x.ends(api.ErrIO) })
}

// Addresses up to the last one that isn't 0: each number of noughts behind it.
func TestLoadAddressesWithoutNoughts(t *testing.T) {
	for _, blocks := range []int{1, 16, 17, 44, 45, 72, 73, 828} {
		for _, last := range append(edges(), -1) {
			if last >= blocks {
				continue
			}
			x := file(3, make([]int, blocks)...)
			if last >= 0 {
				x.Addrs[last] = 8
			}
			built(t, wide(), withRoot(x)).loadsAgain()
		}
	}
}

// Blocks that tell each other: it ends.
func TestLoadOfCircles(t *testing.T) {
	x := built(t, wide(), small())
	order := x.order()
	for _, owner := range []int{0, 2, 40} {
		for index := range 1200 {
			address := x.where[[2]int{owner, index}]
			if address == 0 {
				continue
			}
			for place := 0; place < 56; place += 2 {
				for _, p := range order {
					x.set(address, place, p, func() { x.loads() })
				}
			}
		}
	}
	x.set(x.at(2, 999), doubleAt, x.at(2, 999), func() { x.loads() })
	x.set(x.at(2, 999), singleAt, x.at(2, 999), func() { x.loads() })
	for _, owner := range []int{1, 2, 40} {
		for _, p := range order {
			x.set(x.at(owner, 999), ownAt, p, func() { x.loads() })
			x.set(x.at(owner, 999), singleAt, p, func() { x.loads() })
			x.set(x.at(owner, 999), doubleAt, p, func() { x.loads() })
		}
	}
	x.loadsAgain()
}

// Each address has the same bytes.
func TestLoadOfTheSameEverywhere(t *testing.T) {
	for _, b := range [][]byte{make([]byte, 56), bytes.Repeat([]byte{255}, 56), twos(slices.Repeat([]int{1}, 28)...), twos(21074, 1, 2), twos(21074), padded([]byte{2, 2, 0})} {
		d := diskOf(nil, nil)
		for address := range 3777 {
			d.bytes[address] = b
		}
		fails(t, wide(), d, 1, api.ErrCorrupt)
	}
}
