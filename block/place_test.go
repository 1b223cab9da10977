package block

import (
	"testing"

	"moraine/api"
)

// By hand.
func TestPlaceByHand(t *testing.T) {
	m, _ := New([]int{5, 0})
	m.Put(2, filled(1))
	for _, c := range []struct {
		k, address int
		want       api.Errno
	}{{0, 9, api.ErrRange}, {1, 9, api.ErrRange}, {2, 0, api.ErrRange}, {2, 65536, api.ErrRange}, {2, 9, api.OK}, {2, 9, api.ErrRange}, {2, 10, api.ErrRange}, {3, 9, api.ErrRange}} {
		if err := m.Place(c.k, c.address); err != c.want {
			t.Errorf("block %d at %d: %v, not %v", c.k, c.address, err, c.want)
		}
	}
	if m.At(0) != 5 || m.At(1) != 0 || m.At(2) != 9 {
		t.Error(m.At(0), m.At(1), m.At(2))
	}
	if b, ok := m.Bytes(2); len(b) != 0 || ok {
		t.Error(b, ok)
	}
}

// A block of each kind, at addresses within the bounds and beside them.
func TestPlaceOfEachKind(t *testing.T) {
	for _, k := range []int{0, 1, 2, 400, 825, 826, 827} {
		for _, address := range append(noAddresses(), 0, 1, 2, 5, 255, 256, 65534, 65535) {
			x := mixed(t)
			want := api.ErrRange
			if k%3 == 1 && address >= 1 && address <= 65535 {
				want = api.OK
			}
			if err := x.m.Place(k, address); err != want {
				t.Errorf("block %d at %d: %v, not %v", k, address, err, want)
			}
			x.p.place(k, address)
			x.same()
		}
	}
}

// Each block, when it is new; only once.
func TestPlaceOfEachBlock(t *testing.T) {
	x := both(t)
	for k := range 828 {
		x.place(k, k+1)
		x.put(k, filled(7))
		for _, address := range noAddresses() {
			x.place(k, address)
		}
		x.place(k, 0)
		x.place(k, 65535-k)
		x.place(k, k+1)
	}
	x.same()
}

// Numbers that no block has: nothing changes.
func TestPlaceOfNoBlock(t *testing.T) {
	x := mixed(t)
	for _, k := range nowheres() {
		for _, address := range append(noAddresses(), 0, 1, 65535) {
			if err := x.m.Place(k, address); err != api.ErrRange {
				t.Errorf("block %d at %d: %v", k, address, err)
			}
		}
	}
	x.same()
}

// Each address that there is.
func TestPlaceAtEachAddress(t *testing.T) {
	x := both(t)
	for address := -300; address < 66000; address++ {
		x.put(5, one(5, 5))
		x.place(5, address)
	}
	x.same()
}

// A block that was placed can be new again, and then be placed again.
func TestPlaceAgain(t *testing.T) {
	x := both(t, 5)
	for address := 1; address < 10; address++ {
		x.put(0, filled(byte(address)))
		x.lists()
		x.place(0, address)
		x.lists()
		x.place(0, address+1)
	}
	x.put(0, make([]byte, 56))
	x.place(0, 3)
	x.same()
}

// Many blocks come to one address, one by one: Fresh loses each of them, There none.
func TestPlaceAllAtOneAddress(t *testing.T) {
	x := both(t)
	for k := range 828 {
		x.put(k, filled(1))
	}
	for k := range 828 {
		x.place(827-k, 4)
		x.lists()
	}
	x.same()
	x.move(4, 5)
	x.same()
}
