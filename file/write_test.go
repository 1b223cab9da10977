package file

import (
	"math"
	"slices"
	"testing"

	"moraine/api"
)

// small: a file of four blocks, of all kinds, that ends within the last one, which has bytes behind the end.
func small(t *testing.T) *pair {
	t.Helper()
	x := made(t, fewDisk(), 200, 1, 0, 0, 4)
	x.write(112, rising(56, 1))
	return x
}

// Each place of a small file, with each number of bytes, as long as it may be.
func TestWriteEachPlace(t *testing.T) {
	for at := range 290 {
		for n := range 180 {
			x := small(t)
			x.write(at, rising(n, at))
			x.quick()
			for k := range 9 {
				x.is(k)
			}
			if (at+n)%7 == 0 {
				x.read(0, 500)
			}
		}
	}
}

// The same with noughts: blocks come to be none.
func TestWriteOfNoughts(t *testing.T) {
	for at := range 290 {
		for _, n := range []int{1, 2, 17, 31, 32, 33, 55, 56, 57, 100, 111, 112, 113, 168, 200, 224} {
			x := small(t)
			x.write(at, make([]byte, n))
			x.same()
		}
	}
}

// Bytes by hand: a part of a block, a whole one, from the middle of one to that of another one, behind the end.
func TestWriteByHand(t *testing.T) {
	d := &disk{bytes: map[int][]byte{9: filled(56, 9), 8: filled(56, 8), 7: filled(56, 7)}}
	f, _ := New(150, []int{9, 8, 7}, d)
	f.Write(0, []byte{1, 2})
	isFile(t, f, slices.Concat([]byte{1, 2}, filled(54, 9), filled(56, 8), filled(38, 7)), 0, 1, 2)
	f.Write(56, filled(56, 3))
	isFile(t, f, slices.Concat([]byte{1, 2}, filled(54, 9), filled(56, 3), filled(38, 7)), 0, 1, 2)
	f.Write(100, filled(20, 4))
	isFile(t, f, slices.Concat([]byte{1, 2}, filled(54, 9), filled(44, 3), filled(20, 4), filled(30, 7)), 0, 1, 2)
	f.Write(160, []byte{5})
	isFile(t, f, slices.Concat([]byte{1, 2}, filled(54, 9), filled(44, 3), filled(20, 4), filled(40, 7), []byte{5}), 0, 1, 2)
	if got := f.Blocks().Fresh(); !slices.Equal(got, []int{0, 1, 2}) {
		t.Error("new are", got)
	}
	f.Write(170, []byte{6})
	isFile(t, f, slices.Concat([]byte{1, 2}, filled(54, 9), filled(44, 3), filled(20, 4), filled(40, 7), []byte{5}, filled(7, 7), []byte{0, 0, 6}), 0, 1, 2, 3)
	f.Write(400, []byte{7})
	if f.Size() != 401 || !slices.Equal(f.Blocks().There(), []int{0, 1, 2, 3, 7}) {
		t.Error(f.Size(), f.Blocks().There())
	}
}

// At and the bytes together at MaxSize, and one more.
func TestWriteAtTheBound(t *testing.T) {
	for _, n := range []int{0, 1, 2, 55, 56, 57, 112, 1000, 46312, 46367, 46368} {
		x := both(t, 10, 5)
		at := 46368 - n
		x.refused(api.ErrRange, func() api.Errno { return x.write(at+1, rising(n, 3)) })
		x.refused(api.ErrRange, func() api.Errno { return x.write(at, rising(n+1, 3)) })
		if err := x.write(at, rising(n, 3)); err != api.OK {
			t.Error(n, err)
		}
		x.same()
		if n > 0 && x.f.Size() != 46368 {
			t.Error(x.f.Size())
		}
	}
}

// Places that there are none of, with and without bytes: ErrRange, also ahead of what the Source tells.
func TestWriteOutOfRange(t *testing.T) {
	d := newDisk()
	for address := range 900 {
		d.wrong[address] = api.ErrIO
	}
	for _, x := range []*pair{both(t, 0), mixed(t), made(t, d, 46368, from(1, 829)...)} {
		for _, at := range noSizes() {
			for _, n := range []int{0, 1, 2, 56, 57, 112, 46367, 46368, 46369, 100000} {
				x.refused(api.ErrRange, func() api.Errno { return x.write(at, make([]byte, n)) })
				x.refused(api.ErrRange, func() api.Errno { return x.write(at, rising(n, 1)) })
			}
			x.refused(api.ErrRange, func() api.Errno { return x.write(at, nil) })
		}
		for _, n := range []int{46369, 46370, 50000, 100000} {
			x.refused(api.ErrRange, func() api.Errno { return x.write(0, make([]byte, n)) })
		}
		if got := x.f.Write(math.MaxInt, rising(5, 5)); got != api.ErrRange {
			t.Error(got)
		}
	}
}

// Without bytes nothing happens, behind the end neither; nothing is asked for.
func TestWriteWithoutBytes(t *testing.T) {
	d := newDisk()
	for address := range 900 {
		d.wrong[address] = api.ErrIO
	}
	for _, x := range []*pair{both(t, 0), mixed(t), made(t, d, 100, 1, 2), both(t, 46368, from(1, 829)...)} {
		for _, at := range []int{0, 1, 55, 56, 57, 99, 100, 101, 112, 113, 1000, 1697, 2000, 46367, 46368} {
			x.refused(api.OK, func() api.Errno { return x.write(at, nil) })
			x.refused(api.OK, func() api.Errno { return x.write(at, []byte{}) })
		}
	}
}

// Bytes behind the end, with a gap of each number of bytes: it is noughts, but for what the Source has.
func TestWriteBehindTheEnd(t *testing.T) {
	for _, size := range []int{0, 1, 20, 55, 56, 57, 100, 112} {
		for gap := range 200 {
			for _, addresses := range [][]int{nil, {3}, {3, 4}} {
				if len(addresses) > (size+55)/56 {
					continue
				}
				x := made(t, fewDisk(), size, addresses...)
				x.write(size+gap, []byte{7})
				x.quick()
				for k := range 9 {
					x.is(k)
				}
				x.read(0, 500)
			}
		}
	}
	for _, gap := range []int{300, 560, 561, 5000, 46312, 46367} {
		x := both(t, 0)
		x.write(gap, []byte{1})
		x.same()
		x = both(t, 0)
		x.write(gap, []byte{0})
		x.same()
		if x.f.Size() != gap+1 || len(x.f.Blocks().There()) > 0 {
			t.Error(x.f.Size(), x.f.Blocks().There())
		}
	}
}

// A gap within a block that is new, or was.
func TestWriteBehindANewBlock(t *testing.T) {
	x := both(t, 0)
	x.write(3, []byte{1, 2, 3})
	x.same()
	x.write(20, []byte{4})
	x.same()
	x.place(0, 850)
	x.same()
	x.write(25, []byte{5})
	x.same()
	x.trunc(22)
	x.write(30, []byte{6})
	x.same()
	if got, _ := x.read(0, 100); !slices.Equal(got, slices.Concat([]byte{0, 0, 0, 1, 2, 3}, make([]byte, 14), []byte{4}, make([]byte, 9), []byte{6})) {
		t.Error(got)
	}
}

// The bytes that a block of the Source has behind the end are kept, and come to be bytes of the file, when it grows over them.
func TestWriteKeepsWhatTheSourceHas(t *testing.T) {
	for size := range 112 {
		for _, at := range []int{size, size + 1, size + 5, 111, 112, 113, 300} {
			d := &disk{bytes: map[int][]byte{1: filled(56, 1), 2: filled(56, 2)}}
			f, err := New(size, []int{1, 2}[:(size+55)/56], d)
			if err != api.OK {
				t.Fatal(err)
			}
			f.Write(at, []byte{9})
			want := make([]byte, at+1)
			for i := range want {
				if i/56 < (size+55)/56 {
					want[i] = byte(1 + i/56)
				}
			}
			want[at] = 9
			if got, err := f.Read(0, 1000); err != api.OK || !slices.Equal(got, want) {
				t.Fatalf("a file of %d, with a byte at %d: %v, %v", size, at, got, err)
			}
		}
	}
}

// A block that comes to be all 0 is none, whatever it was.
func TestWriteMakesNone(t *testing.T) {
	d := &disk{bytes: map[int][]byte{1: append(make([]byte, 55), 1), 2: append([]byte{1}, make([]byte, 55)...), 3: make([]byte, 56), 4: filled(56, 4)}}
	x := made(t, d, 224, 1, 2, 3, 4)
	for _, c := range []struct {
		at    int
		data  []byte
		there []int
	}{
		{55, []byte{0}, []int{1, 2, 3}},
		{56, []byte{0}, []int{2, 3}},
		{112, []byte{0}, []int{3}},
		{168, make([]byte, 55), []int{3}},
		{223, []byte{0}, nil},
		{10, []byte{1}, []int{0}},
		{10, []byte{0}, nil},
		{0, rising(224, 1), []int{0, 1, 2, 3}},
		{30, make([]byte, 168), []int{0, 3}},
		{0, make([]byte, 224), nil},
		{500, make([]byte, 5), nil},
	} {
		x.write(c.at, c.data)
		x.same()
		if got := x.f.Blocks().There(); !slices.Equal(got, c.there) {
			t.Errorf("behind %d bytes at %d there are %v, not %v", len(c.data), c.at, got, c.there)
		}
	}
}

// The same bytes once more: each block that has some of them is new all the same.
func TestWriteOfTheSameBytes(t *testing.T) {
	for at := range 220 {
		for _, n := range []int{1, 2, 55, 56, 57, 112, 120} {
			x := made(t, fewDisk(), 400, 1, 2, 3, 4, 5, 6, 7, 8)
			got, _ := x.read(at, n)
			x.write(at, got)
			x.same()
			if fresh := x.f.Blocks().Fresh(); !slices.Equal(fresh, from(at/56, (at+n-1)/56+1)) {
				t.Errorf("behind %d bytes at %d new are %v", n, at, fresh)
			}
		}
	}
}

// An error at each block: it is told, if the block keeps some bytes of its own, and all is as it was.
func TestWriteWithAnError(t *testing.T) {
	for _, c := range []struct {
		at, n int
		read  []int
	}{
		{0, 1, []int{0}}, {0, 55, []int{0}}, {0, 56, nil}, {0, 57, []int{1}}, {1, 55, []int{0}}, {1, 56, []int{0, 1}}, {55, 1, []int{0}}, {55, 2, []int{0, 1}},
		{56, 56, nil}, {56, 112, nil}, {57, 55, []int{1}}, {57, 111, []int{1}}, {57, 112, []int{1, 3}}, {100, 300, []int{1, 7}}, {56, 400, []int{8}}, {0, 560, nil}, {0, 559, []int{9}},
		{1, 559, []int{0}}, {1, 558, []int{0, 9}}, {504, 50, []int{9}}, {504, 55, []int{9}}, {504, 56, nil}, {504, 100, nil}, {505, 100, []int{9}}, {545, 15, []int{9}}, {560, 5, nil}, {550, 20, []int{9}}, {555, 5, []int{9}},
		{504, 46368 - 504, nil}, {0, 46368, nil}, {30, 46368 - 30, []int{0}},
	} {
		for k := range 10 {
			for _, wrong := range []api.Errno{api.ErrIO, api.ErrDead, -5} {
				d := fewDisk()
				x := made(t, d, 550, from(1, 11)...)
				d.wrong[1+k] = wrong
				if slices.Contains(c.read, k) {
					x.refused(wrong, func() api.Errno { return x.write(c.at, rising(c.n, 1)) })
					x.refused(wrong, func() api.Errno { return x.write(c.at, make([]byte, c.n)) })
					d.wrong[1+k] = api.OK
					x.same()
				} else if err := x.write(c.at, rising(c.n, 1)); err != api.OK {
					t.Errorf("%d bytes at %d, error at block %d: %v", c.n, c.at, k, err)
				}
				d.wrong[1+k] = api.OK
				x.same()
			}
		}
	}
}

// Of two errors the one of the block ahead is told.
func TestWriteTellsTheFirstError(t *testing.T) {
	for _, numbers := range [][2]api.Errno{{api.ErrIO, api.ErrDead}, {api.ErrDead, api.ErrIO}, {5, -5}} {
		for _, addresses := range [][]int{{1, 2, 3, 4}, {4, 3, 2, 1}} {
			d := fewDisk()
			d.wrong[addresses[0]], d.wrong[addresses[3]] = numbers[0], numbers[1]
			x := made(t, d, 220, addresses...)
			x.refused(numbers[0], func() api.Errno { return x.write(20, rising(180, 1)) })
			x.refused(numbers[1], func() api.Errno { return x.write(0, rising(180, 1)) })
			x.refused(numbers[0], func() api.Errno { return x.write(20, rising(204, 1)) })
			x.refused(numbers[0], func() api.Errno { return x.write(20, rising(1000, 1)) })
			if err := x.write(0, rising(224, 1)); err != api.OK {
				t.Error(err)
			}
			x.same()
		}
	}
}

// A block is none or new: no error of the Source stops it, whatever it tells of the address where it was.
func TestWriteWithErrorsOfNoBlock(t *testing.T) {
	d := newDisk()
	x := made(t, d, 300, 1, 2, 3, 0, 5)
	x.write(56, rising(56, 8))
	x.write(112, make([]byte, 56))
	for _, address := range []int{0, 1, 2, 3, 4, 5, 6} {
		d.wrong[address] = api.ErrIO
	}
	for _, at := range []int{57, 100, 113, 130, 170, 200} {
		if err := x.write(at, []byte{1, 2, 3}); err != api.OK {
			t.Error(at, err)
		}
	}
	clear(d.wrong)
	x.same()
}

// All bytes of the longest file at once, in pieces of each of some lengths, and from behind.
func TestWriteOfTheLongestFile(t *testing.T) {
	x := both(t, 46368, from(1, 829)...)
	x.write(0, rising(46368, 5))
	x.same()
	for _, n := range []int{1000, 57, 56, 55, 333} {
		x = both(t, 0)
		y := both(t, 0)
		all := rising(46368, n)
		for at := 0; at < 46368; at += n {
			end := min(at+n, 46368)
			x.write(at, all[at:end])
			y.write(46368-end, all[46368-end:46368-at])
		}
		x.same()
		y.same()
		isFile(t, x.f, all, from(0, 828)...)
		isFile(t, y.f, all, from(0, 828)...)
	}
}
