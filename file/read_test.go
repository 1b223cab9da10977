package file

import (
	"bytes"
	"math"
	"testing"

	"moraine/api"
)

// Each place of a small file, with each number of bytes.
func TestReadEachPlace(t *testing.T) {
	for _, x := range []*pair{both(t, 0), both(t, 1), both(t, 1, 5), both(t, 56, 5), both(t, 57, 5), both(t, 57, 5, 6), both(t, 130, 5, 6, 7), both(t, 170, 0, 6, 0, 8)} {
		for at := range x.p.size + 60 {
			for n := range x.p.size + 60 {
				x.read(at, n)
			}
		}
	}
}

// The edges, of files with blocks of all kinds.
func TestReadEdges(t *testing.T) {
	for _, x := range []*pair{mixed(t), both(t, 0), both(t, 46368, from(1, 829)...), both(t, 46368), both(t, 46313, 7, 7, 7)} {
		size := x.p.size
		places := []int{0, 1, 54, 55, 56, 57, 111, 112, 113, 1000, size - 57, size - 56, size - 1, size, size + 1, size + 55, size + 56, 46367, 46368, 46369, 1 << 31, 1 << 32, math.MaxInt - 1, math.MaxInt}
		for _, at := range places {
			for _, n := range places {
				if at >= 0 && n >= 0 {
					x.read(at, n)
				}
			}
		}
	}
}

func TestReadOfNegatives(t *testing.T) {
	bad := []int{-1, -2, -56, -1 << 31, -1 << 32, 5 - 1<<32, math.MinInt, math.MinInt + 1, math.MinInt + 56}
	good := []int{0, 1, 56, 1000, 46368, math.MaxInt}
	d := newDisk()
	d.wrong[1] = api.ErrIO
	for _, x := range []*pair{mixed(t), both(t, 0), made(t, d, 56, 1)} {
		for _, one := range bad {
			for _, other := range append(good, bad...) {
				x.refused(api.ErrRange, x.reading(one, other))
				x.refused(api.ErrRange, x.reading(other, one))
			}
		}
	}
}

// Bytes by hand: of a block that is at an address, one that is new, one that is none; a block's last byte and the next one's first; the end.
func TestReadByHand(t *testing.T) {
	d := &disk{bytes: map[int][]byte{9: rising(56, 0), 8: rising(56, 100)}}
	f, err := New(240, []int{9, 0, 0, 0, 8}, d)
	if err != api.OK {
		t.Fatal(err)
	}
	f.Blocks().Put(2, filled(56, 200))
	for _, c := range []struct {
		at, n int
		want  []byte
	}{
		{0, 0, nil}, {0, 1, []byte{1}}, {1, 2, []byte{2, 3}}, {54, 2, []byte{55, 56}}, {55, 1, []byte{56}}, {55, 2, []byte{56, 0}}, {56, 1, []byte{0}},
		{56, 56, make([]byte, 56)}, {111, 2, []byte{0, 200}}, {112, 3, []byte{200, 200, 200}}, {167, 2, []byte{200, 0}}, {223, 2, []byte{0, 101}},
		{224, 16, rising(16, 100)}, {224, 17, rising(16, 100)}, {224, 1000, rising(16, 100)}, {224, math.MaxInt, rising(16, 100)}, {239, 1, []byte{116}}, {239, 2, []byte{116}},
		{240, 1, nil}, {241, 1, nil}, {240, 0, nil}, {math.MaxInt, math.MaxInt, nil}, {5, 0, nil},
	} {
		if got, err := f.Read(c.at, c.n); err != api.OK || !bytes.Equal(got, c.want) {
			t.Errorf("Read of %d, %d: %v, %v, not %v", c.at, c.n, got, err, c.want)
		}
	}
}

// An error at each of the blocks that have some of the bytes, and at one that has none of them.
func TestReadWithAnError(t *testing.T) {
	for _, c := range []struct{ at, n, first, last int }{
		{0, 560, 0, 9}, {0, 1, 0, 0}, {55, 1, 0, 0}, {55, 2, 0, 1}, {56, 56, 1, 1}, {56, 57, 1, 2}, {111, 1, 1, 1}, {111, 2, 1, 2}, {100, 300, 1, 7}, {504, 56, 9, 9}, {559, 1, 9, 9}, {559, 1000, 9, 9}, {500, math.MaxInt, 8, 9},
	} {
		for k := range 10 {
			for _, wrong := range []api.Errno{api.ErrIO, api.ErrDead, api.ErrCorrupt, 1, -1, 77, math.MaxInt} {
				d := fewDisk()
				x := made(t, d, 560, from(1, 11)...)
				d.wrong[1+k] = wrong
				want := api.OK
				if k >= c.first && k <= c.last {
					want = wrong
				}
				x.refused(want, x.reading(c.at, c.n))
				if got, err := x.read(c.at, c.n); err != want || want != api.OK && len(got) > 0 {
					t.Errorf("Read of %d, %d, error at block %d: %v, %v, not %v", c.at, c.n, k, got, err, want)
				}
			}
		}
	}
}

// Of two errors the one of the block ahead is told, whatever their numbers and their addresses.
func TestReadTellsTheFirstError(t *testing.T) {
	for first := range 10 {
		for second := range 10 {
			for _, turned := range []bool{false, true} {
				d := fewDisk()
				addresses := from(1, 11)
				if turned {
					for k := range addresses {
						addresses[k] = 10 - k
					}
				}
				d.wrong[addresses[first]], d.wrong[addresses[second]] = api.ErrIO, api.ErrDead
				x := made(t, d, 555, addresses...)
				want := api.ErrIO
				if second <= first {
					want = api.ErrDead
				}
				x.refused(want, x.reading(0, 555))
				want = api.ErrIO
				if second <= first && second >= 3 || first < 3 {
					want = api.ErrDead
				}
				if first < 3 && second < 3 {
					want = api.OK
				}
				x.refused(want, x.reading(168, 1000))
			}
		}
	}
}

// What isn't at an address has no error, even if the Source has one at the address where it was.
func TestReadWithErrorsOfNoBlock(t *testing.T) {
	d := newDisk()
	x := made(t, d, 300, 1, 2, 3, 0, 5)
	x.write(56, rising(56, 8))
	x.write(112, make([]byte, 56))
	for _, address := range []int{0, 2, 3, 4, 6, -1, 65535} {
		d.wrong[address] = api.ErrIO
	}
	x.same()
	if _, err := x.read(0, 300); err != api.OK {
		t.Error(err)
	}
}

// Bytes of the Source behind the end can't be read.
func TestReadEndsAtTheSize(t *testing.T) {
	for size := range 120 {
		addresses := []int{3, 4, 5}[:(size+55)/56]
		x := both(t, size, addresses...)
		got, err := x.read(0, 1000)
		if err != api.OK || len(got) != size {
			t.Error(size, len(got), err)
		}
		got, err = x.read(size, 1000)
		if err != api.OK || len(got) != 0 {
			t.Error(size, len(got), err)
		}
	}
}
