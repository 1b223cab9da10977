package file

import (
	"math"
	"slices"
	"testing"

	"moraine/api"
)

// refuses: New answers ErrRange and nil, whatever the Source.
func refuses(t *testing.T, size int, addresses []int) {
	t.Helper()
	if _, ok := plainNew(size, addresses, nil); ok {
		t.Errorf("the plain way makes a file of %d with %d addresses", size, len(addresses))
	}
	d := newDisk()
	if f, err := New(size, addresses, d); f != nil || err != api.ErrRange {
		t.Errorf("New of %d with %d addresses: %v, %v", size, len(addresses), f, err)
	}
	if f, err := New(size, addresses, nil); f != nil || err != api.ErrRange {
		t.Errorf("New of %d with %d addresses, no Source: %v, %v", size, len(addresses), f, err)
	}
	if len(d.asked) > 0 {
		t.Error("New asked for", d.asked)
	}
}

// Each size that there is has as many addresses as blocks, and not one more.
func TestNewOfEachSize(t *testing.T) {
	d := newDisk()
	addresses := from(1, 830)
	for size := range 46369 {
		blocks := (size + 55) / 56
		if size%56 > 1 && size%97 > 0 {
			continue
		}
		f, err := New(size, addresses[:blocks], d)
		if err != api.OK || f.Size() != size || len(f.Blocks().There()) != blocks {
			t.Fatalf("New of %d with %d addresses: %v, %v", size, blocks, f, err)
		}
		if f, err := New(size, addresses[:blocks+1], d); f != nil || err != api.ErrRange {
			t.Fatalf("New of %d with %d addresses: %v, %v", size, blocks+1, f, err)
		}
	}
	if len(d.asked) > 0 {
		t.Error("New asked for", d.asked)
	}
}

func TestNewAtTheEdges(t *testing.T) {
	for _, size := range []int{0, 1, 55, 56, 57, 111, 112, 113, 46311, 46312, 46313, 46367, 46368} {
		blocks := (size + 55) / 56
		for _, n := range []int{0, 1, blocks - 1, blocks} {
			if n >= 0 && n <= blocks {
				x := both(t, size, from(1, n+1)...)
				if x.f.Size() != size {
					t.Error(x.f.Size())
				}
			}
		}
		for _, n := range []int{blocks + 1, blocks + 2, 828, 829, 1700} {
			if n > blocks {
				refuses(t, size, from(1, n+1))
				refuses(t, size, make([]int, n))
			}
		}
	}
}

func TestNewOfNoSize(t *testing.T) {
	for _, size := range noSizes() {
		refuses(t, size, nil)
		refuses(t, size, []int{})
		refuses(t, size, []int{5})
		refuses(t, size, []int{-1})
		refuses(t, size, from(1, 829))
		refuses(t, size, from(1, 830))
	}
}

// Addresses that block.New refuses, at each place of a list.
func TestNewOfNoAddresses(t *testing.T) {
	for _, bad := range []int{-1, -2, -65536, 65536, 65537, 1 << 31, 1 << 32, 1<<32 + 5, 5 - 1<<32, math.MinInt, math.MinInt + 5, math.MaxInt} {
		for _, size := range []int{1, 56, 57, 560, 46368} {
			blocks := (size + 55) / 56
			for k := range min(blocks, 12) {
				list := from(1, blocks+1)
				list[k] = bad
				refuses(t, size, list)
				refuses(t, size, list[:k+1])
				list = make([]int, blocks)
				list[blocks-1-k] = bad
				refuses(t, size, list)
			}
		}
	}
}

// Each address that there can be, and the least and the greatest one at each place.
func TestNewOfEachAddress(t *testing.T) {
	for address := range 65536 {
		f, err := New(56, []int{address}, nil)
		if err != api.OK || f.Blocks().At(0) != address {
			t.Fatal(address, f, err)
		}
	}
	for k := range 828 {
		list := make([]int, k+1)
		list[k] = 65535
		x := made(t, newDisk(), 46368, list...)
		x.is(k)
		x.quick()
	}
}

// One address may be that of many blocks, and lists may have noughts at their ends.
func TestNewOfLikeAddresses(t *testing.T) {
	both(t, 500, slices.Repeat([]int{5}, 9)...)
	both(t, 500, 0, 0, 5, 0, 5, 0, 0)
	both(t, 46368, make([]int, 828)...)
	both(t, 46368, slices.Repeat([]int{900}, 828)...)
}

// What the Source has is asked for when it is read, not ahead of that.
func TestNewAsksForNothing(t *testing.T) {
	d := newDisk()
	for address := range 900 {
		d.wrong[address] = api.ErrIO
	}
	x := made(t, d, 560, from(1, 11)...)
	x.f.Size()
	x.f.Blocks()
	x.f.Clone()
	if len(d.asked) > 0 {
		t.Error("asked for", d.asked)
	}
	x.refused(api.ErrIO, x.reading(0, 1))
}

// A file without blocks at an address needs no Source; one with such a block isn't read without one.
func TestNoSource(t *testing.T) {
	f, err := New(100, nil, nil)
	if err != api.OK {
		t.Fatal(err)
	}
	if err := f.Write(50, rising(100, 3)); err != api.OK {
		t.Fatal(err)
	}
	if err := f.Trunc(120); err != api.OK {
		t.Fatal(err)
	}
	isFile(t, f, slices.Concat(make([]byte, 50), rising(70, 3)), 0, 1, 2)
	f, err = New(100, []int{5, 6}, nil)
	if err != api.OK || f.Size() != 100 {
		t.Fatal(f, err)
	}
	if got, err := f.Read(0, 5); len(got) > 0 || err != api.ErrCorrupt {
		t.Error(got, err)
	}
	if err := f.Write(0, []byte{1}); err != api.ErrCorrupt {
		t.Error(err)
	}
	if err := f.Trunc(1); err != api.ErrCorrupt {
		t.Error(err)
	}
	if err := f.Clone().Trunc(0); err != api.OK {
		t.Error(err)
	}
	if err := f.Write(0, rising(112, 0)); err != api.OK {
		t.Error(err)
	}
	isFile(t, f, rising(112, 0), 0, 1)
}

// Blocks is the file's own map: what is done to it is done to the file.
func TestBlocksIsTheFilesOwn(t *testing.T) {
	x := both(t, 300, 1, 2, 0, 4)
	if x.f.Blocks() != x.f.Blocks() {
		t.Error("it is another one at each call")
	}
	m := x.f.Blocks()
	x.own(2, rising(56, 9))
	x.same()
	x.own(0, make([]byte, 56))
	x.same()
	x.place(2, 800)
	x.same()
	m.Move(800, 801)
	x.p.cells[2].address = 801
	x.same()
	m.Cut(3)
	x.p.cells[3] = cell{}
	x.same()
	x.write(100, rising(100, 7))
	x.same()
	if m != x.f.Blocks() {
		t.Error("Write makes another map")
	}
	x.trunc(120)
	x.same()
	if m != x.f.Blocks() {
		t.Error("Trunc makes another map")
	}
	// Blocks behind the end are none of the file's bytes till the size grows over them.
	x.own(7, rising(56, 1))
	x.same()
	x.trunc(448)
	x.same()
	x.trunc(440)
	x.own(8, rising(56, 1))
	x.own(9, rising(56, 1))
	x.own(827, rising(56, 1))
	x.same()
	x.write(530, []byte{1})
	x.same()
	x.trunc(540)
	x.same()
}
