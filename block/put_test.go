package block

import (
	"bytes"
	"math"
	"slices"
	"testing"

	"moraine/api"
)

// By hand.
func TestPutByHand(t *testing.T) {
	m, _ := New([]int{5, 6})
	b := append([]byte{1, 2, 3}, make([]byte, 53)...)
	if err := m.Put(1, b); err != api.OK {
		t.Error(err)
	}
	if got, ok := m.Bytes(1); !ok || !bytes.Equal(got, b) || m.At(1) != 0 {
		t.Error(got, ok, m.At(1))
	}
	if got, ok := m.Bytes(0); ok || len(got) != 0 || m.At(0) != 5 {
		t.Error(got, ok, m.At(0))
	}
	if err := m.Put(1, make([]byte, 56)); err != api.OK {
		t.Error(err)
	}
	if got, ok := m.Bytes(1); ok || len(got) != 0 || m.At(1) != 0 {
		t.Error(got, ok, m.At(1))
	}
}

// Each block that there can be, into a map without blocks, and into one with all.
func TestPutOfEachBlock(t *testing.T) {
	for _, addresses := range [][]int{nil, from(1, 829)} {
		x := both(t, addresses...)
		for k := range 828 {
			x.put(k, filled(byte(1+k%255)))
			if !slices.Equal(x.m.Fresh(), from(0, k+1)) {
				t.Error(k, x.m.Fresh())
			}
		}
		x.same()
		for k := range 828 {
			x.put(k, make([]byte, 56))
			if !slices.Equal(x.m.There(), from(k+1, 828)) {
				t.Error(k, x.m.There())
			}
		}
		x.same()
	}
}

// At the bounds of the blocks' numbers.
func TestPutAtTheBounds(t *testing.T) {
	for k, want := range map[int]api.Errno{-1: api.ErrRange, 0: api.OK, 1: api.OK, 827: api.OK, 828: api.ErrRange, math.MinInt: api.ErrRange, math.MaxInt: api.ErrRange} {
		for _, b := range [][]byte{filled(7), make([]byte, 56), one(55, 1)} {
			x := both(t, from(1, 829)...)
			if err := x.m.Put(k, b); err != want {
				t.Errorf("block %d: %v, not %v", k, err, want)
			}
			x.p.put(k, b)
			x.same()
		}
	}
}

// What isn't refused by its bytes is by its number, and nothing changes.
func TestPutOfNoBlock(t *testing.T) {
	x := mixed(t)
	for _, k := range nowheres() {
		for _, b := range [][]byte{nil, {1}, filled(7)[:55], filled(7), append(filled(7), 7), make([]byte, 56), one(0, 1)} {
			if err := x.m.Put(k, b); err != api.ErrRange {
				t.Errorf("block %d: %v", k, err)
			}
		}
	}
	x.same()
}

// Bytes of each length, onto a block of each kind.
func TestPutOfEachLength(t *testing.T) {
	lengths := append(from(0, 130), 255, 256, 256+56, 312, 46368, 65536, 65536+56)
	for _, n := range lengths {
		x := both(t, 5, 6, 7)
		x.put(1, filled(9))
		x.put(2, make([]byte, 56))
		for _, b := range [][]byte{make([]byte, n), bytes.Repeat([]byte{255}, n), append(make([]byte, n), 1)[1:], append([]byte{1}, make([]byte, n)...)[:n]} {
			for k := range 3 {
				want := api.ErrRange
				if n == 56 {
					want = api.OK
				}
				if err := x.m.Put(k, b); err != want {
					t.Errorf("%d bytes as block %d: %v, not %v", n, k, err, want)
				}
				x.p.put(k, b)
				x.is(k)
			}
		}
		x.same()
	}
}

// A nil list is one without bytes.
func TestPutOfNil(t *testing.T) {
	x := mixed(t)
	for k := range 828 {
		if err := x.m.Put(k, nil); err != api.ErrRange {
			t.Error(k, err)
		}
		if err := x.m.Put(k, []byte{}); err != api.ErrRange {
			t.Error(k, err)
		}
	}
	x.same()
}

// One byte that isn't 0, at each place, makes a block new; without it, it is none.
func TestPutOfEachByte(t *testing.T) {
	for _, addresses := range [][]int{nil, {3}} {
		for at := range 56 {
			for y := 1; y < 256; y++ {
				x := unlooked(t, addresses)
				if err := x.m.Put(0, one(at, byte(y))); err != api.OK {
					t.Error(at, y, err)
				}
				x.p.put(0, one(at, byte(y)))
				x.is(0)
				x.lists()
				x.put(0, make([]byte, 56))
				x.lists()
			}
		}
	}
}

// What a block is ahead of a Put doesn't tell what it is behind it: each kind onto each kind, three in a row.
func TestPutOntoEachKind(t *testing.T) {
	for first := range 4 {
		for second := range 4 {
			for third := range 4 {
				for _, k := range []int{0, 1, 400, 827} {
					x := both(t, from(1, 829)...)
					for _, kind := range []int{first, second, third} {
						switch kind {
						case 0:
							x.put(k, make([]byte, 56))
						case 1:
							x.put(k, filled(1))
						case 2:
							x.put(k, filled(2))
						default:
							x.put(k, filled(3))
							x.place(k, 65535)
						}
						x.lists()
					}
					x.same()
				}
			}
		}
	}
}

// At and Bytes of numbers that no block has, in maps of each kind.
func TestAtAndBytesOfNoBlock(t *testing.T) {
	full := both(t)
	for k := range 828 {
		full.put(k, filled(5))
	}
	for _, x := range []*pair{both(t), both(t, from(1, 829)...), full, mixed(t)} {
		for _, k := range nowheres() {
			if at := x.m.At(k); at != 0 {
				t.Errorf("block %d is at %d", k, at)
			}
			if b, ok := x.m.Bytes(k); len(b) != 0 || ok {
				t.Errorf("block %d is new: %v, %v", k, b, ok)
			}
		}
	}
}

// Asking changes nothing, however often.
func TestAskingChangesNothing(t *testing.T) {
	x := mixed(t)
	for range 5 {
		x.same()
	}
}

// A block's bytes are all 56, those behind its last one that isn't 0, too.
func TestBytesAreAll(t *testing.T) {
	for at := range 56 {
		m, _ := New(nil)
		m.Put(827, one(at, 1))
		if b, ok := m.Bytes(827); len(b) != 56 || !ok || b[at] != 1 {
			t.Error(at, b, ok)
		}
	}
}
