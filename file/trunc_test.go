package file

import (
	"slices"
	"testing"

	"moraine/api"
)

// Each size, from a small file on, and from that to its old one.
func TestTruncToEachSize(t *testing.T) {
	for n := range 400 {
		x := small(t)
		x.trunc(n)
		x.same()
		x.trunc(200)
		x.same()
		x.trunc(448)
		x.same()
	}
}

func TestTruncEdges(t *testing.T) {
	for _, size := range []int{0, 1, 55, 56, 57, 111, 112, 113, 1000, 46312, 46313, 46367, 46368} {
		for _, n := range []int{0, 1, 55, 56, 57, 111, 112, 113, 999, 1000, 1001, 46311, 46312, 46313, 46367, 46368} {
			x := made(t, newDisk(), size, from(1, (size+55)/56+1)...)
			if err := x.trunc(n); err != api.OK || x.f.Size() != n {
				t.Error(size, n, err)
			}
			x.same()
		}
	}
}

func TestTruncOutOfRange(t *testing.T) {
	d := newDisk()
	for address := range 900 {
		d.wrong[address] = api.ErrIO
	}
	for _, x := range []*pair{both(t, 0), mixed(t), both(t, 46368, from(1, 829)...), made(t, d, 560, from(1, 11)...)} {
		for _, n := range noSizes() {
			x.refused(api.ErrRange, func() api.Errno { return x.trunc(n) })
		}
	}
}

// Sizes by hand: the same one, greater ones, smaller ones at a block's end and within it.
func TestTruncByHand(t *testing.T) {
	d := &disk{bytes: map[int][]byte{9: filled(56, 9), 8: filled(56, 8)}}
	f, _ := New(100, []int{9, 8}, d)
	f.Trunc(100)
	isFile(t, f, slices.Concat(filled(56, 9), filled(44, 8)), 0, 1)
	if len(f.Blocks().Fresh()) > 0 {
		t.Error("the same size makes blocks new")
	}
	f.Trunc(105)
	isFile(t, f, slices.Concat(filled(56, 9), filled(49, 8)), 0, 1)
	f.Trunc(115)
	isFile(t, f, slices.Concat(filled(56, 9), filled(56, 8), make([]byte, 3)), 0, 1)
	if len(f.Blocks().Fresh()) > 0 || len(d.asked) == 0 {
		t.Error("a greater size makes blocks new")
	}
	f.Trunc(112)
	isFile(t, f, slices.Concat(filled(56, 9), filled(56, 8)), 0, 1)
	if len(f.Blocks().Fresh()) > 0 {
		t.Error("a block's end makes blocks new")
	}
	f.Trunc(60)
	isFile(t, f, slices.Concat(filled(56, 9), filled(4, 8)), 0, 1)
	if got := f.Blocks().Fresh(); !slices.Equal(got, []int{1}) {
		t.Error("new are", got)
	}
	f.Trunc(70)
	isFile(t, f, slices.Concat(filled(56, 9), filled(4, 8), make([]byte, 10)), 0, 1)
	f.Trunc(56)
	isFile(t, f, filled(56, 9), 0)
	f.Trunc(57)
	isFile(t, f, append(filled(56, 9), 0), 0)
	f.Trunc(1)
	isFile(t, f, []byte{9}, 0)
	f.Trunc(0)
	isFile(t, f, nil)
	f.Trunc(46368)
	isFile(t, f, make([]byte, 46368))
}

// The block of the new end is new, even if its bytes behind that were noughts; if it is all 0, it is none.
func TestTruncMakesNewOrNone(t *testing.T) {
	for n := 1; n < 56; n++ {
		for last := range 56 {
			b := make([]byte, 56)
			b[last] = 1
			d := &disk{bytes: map[int][]byte{5: b}}
			x := made(t, d, 56, 5)
			x.trunc(n)
			x.same()
			if there := len(x.f.Blocks().There()) == 1; there != (last < n) || x.f.Blocks().At(0) != 0 {
				t.Errorf("cut to %d, with a byte at %d: there %v", n, last, there)
			}
			x = made(t, fewDisk(), 56)
			x.own(0, b)
			x.trunc(n)
			x.same()
		}
	}
	x := made(t, &disk{bytes: map[int][]byte{5: make([]byte, 56)}}, 56, 5)
	x.trunc(56)
	x.trunc(55)
	x.same()
	if len(x.f.Blocks().There()) > 0 {
		t.Error("noughts are there")
	}
}

// Blocks behind the size are none, even if it grew.
func TestTruncCutsBehind(t *testing.T) {
	for n := range 600 {
		x := made(t, fewDisk(), 300, 1, 2, 3, 4, 5, 6)
		x.own(6, rising(56, 1))
		x.own(8, rising(56, 2))
		x.own(9, rising(56, 3))
		x.own(827, rising(56, 4))
		x.trunc(n)
		x.quick()
		for k := range 11 {
			x.is(k)
		}
		x.read(0, 1000)
	}
}

// What the Source has behind the end is kept by a greater size, and lost by a smaller one.
func TestTruncGrowsOverWhatTheSourceHas(t *testing.T) {
	for size := range 113 {
		for n := range 170 {
			d := &disk{bytes: map[int][]byte{1: filled(56, 1), 2: filled(56, 2)}}
			blocks := (size + 55) / 56
			f, _ := New(size, []int{1, 2}[:blocks], d)
			if err := f.Trunc(n); err != api.OK {
				t.Fatal(err)
			}
			if err := f.Trunc(200); err != api.OK {
				t.Fatal(err)
			}
			want := make([]byte, 200)
			for i := range blocks * 56 {
				if n >= size || i < n {
					want[i] = byte(1 + i/56)
				}
			}
			// A greater size, too, that is then the old one of a smaller one.
			if got, err := f.Read(0, 200); err != api.OK || !slices.Equal(got, want) {
				t.Fatalf("from %d over %d to 200: %v, %v, not %v", size, n, got, err, want)
			}
		}
	}
}

// An error at each block: it is told, if the new end is within that and below the old size; then all is as it was.
func TestTruncWithAnError(t *testing.T) {
	for n := range 700 {
		for _, k := range []int{0, n/56 - 1, n / 56, n/56 + 1, 9} {
			if k < 0 || k > 9 {
				continue
			}
			d := fewDisk()
			x := made(t, d, 550, from(1, 11)...)
			d.wrong[1+k] = api.ErrIO
			if k == n/56 && n < 550 && n%56 > 0 {
				x.refused(api.ErrIO, func() api.Errno { return x.trunc(n) })
				d.wrong[1+k] = api.OK
				x.same()
			} else if err := x.trunc(n); err != api.OK {
				t.Errorf("to %d, error at block %d: %v", n, k, err)
			}
			clear(d.wrong)
			x.quick()
			x.read(0, 1000)
		}
	}
	for _, wrong := range []api.Errno{1, -1, api.ErrDead, api.ErrRange, 1 << 40} {
		d := fewDisk()
		x := made(t, d, 550, from(1, 11)...)
		d.wrong[3] = wrong
		x.refused(wrong, func() api.Errno { return x.trunc(113) })
		x.refused(wrong, func() api.Errno { return x.trunc(167) })
		x.refused(wrong, func() api.Errno { return x.trunc(113) })
	}
}

// The block of the new end is none or new: no error of the Source stops it.
func TestTruncWithErrorsOfNoBlock(t *testing.T) {
	for n := 57; n < 168; n++ {
		d := fewDisk()
		x := made(t, d, 300, 1, 2, 3, 0, 5)
		x.write(56, rising(56, 8))
		x.write(112, make([]byte, 56))
		for address := range 10 {
			d.wrong[address] = api.ErrIO
		}
		if err := x.trunc(n); n != 112 && err != api.OK {
			t.Error(n, err)
		}
		clear(d.wrong)
		x.same()
	}
}
