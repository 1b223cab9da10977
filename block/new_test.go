package block

import (
	"math"
	"slices"
	"testing"

	"moraine/api"
)

// noNew holds New's answer against that where there can be no map.
func noNew(t *testing.T, addresses []int) {
	t.Helper()
	if m, err := New(addresses); m != nil || err != api.ErrRange {
		t.Errorf("New of %d addresses, %v: %v, %v", len(addresses), addresses[:min(3, len(addresses))], m, err)
	}
}

// By hand.
func TestNewByHand(t *testing.T) {
	m, err := New([]int{0, 5, 0, 65535, 1, 5})
	if err != api.OK {
		t.Fatal(err)
	}
	for k, want := range []int{0, 5, 0, 65535, 1, 5, 0} {
		if got := m.At(k); got != want {
			t.Errorf("block %d is at %d, not %d", k, got, want)
		}
		if b, ok := m.Bytes(k); len(b) != 0 || ok {
			t.Errorf("block %d is new: %v, %v", k, b, ok)
		}
	}
	if there, fresh := m.There(), m.Fresh(); !slices.Equal(there, []int{1, 3, 4, 5}) || len(fresh) != 0 {
		t.Error(there, fresh)
	}
}

// Without addresses, nil or none, and with noughts alone: all blocks are none.
func TestNewOfNothing(t *testing.T) {
	for _, addresses := range [][]int{nil, {}, {0}, {0, 0}, make([]int, 827), make([]int, 828)} {
		x := both(t, addresses...)
		if there := x.m.There(); len(there) != 0 {
			t.Error(len(addresses), there)
		}
	}
	if m, err := New(nil); m == nil || err != api.OK {
		t.Error(m, err)
	}
}

// As many addresses as there can be blocks, and more, whatever they are.
func TestNewOfEachLength(t *testing.T) {
	for n := range 900 {
		for _, addresses := range [][]int{make([]int, n), from(1, n+1), from(65536-n, 65536), slices.Repeat([]int{7}, n), slices.Repeat([]int{0, 65535}, n)[:n]} {
			if n <= 828 {
				m, err := New(addresses)
				if m == nil || err != api.OK {
					t.Fatal(n, err)
				}
				p, _ := plainNew(addresses)
				if !slices.Equal(m.There(), p.numbers(isAt)) || len(m.Fresh()) != 0 || n > 0 && m.At(n-1) != addresses[n-1] || m.At(n) != 0 {
					t.Error(n, m.There())
				}
			} else {
				noNew(t, addresses)
			}
		}
	}
	for _, n := range []int{0, 1, 827, 828} {
		both(t, from(1, n+1)...)
	}
	for _, n := range []int{829, 830, 1656, 65535, 65536, 65536 + 5, 1 << 20} {
		noNew(t, make([]int, n))
		noNew(t, slices.Repeat([]int{1}, n))
	}
}

// An address at each bound, at each place of lists of many lengths.
func TestNewAtTheBounds(t *testing.T) {
	for _, n := range []int{1, 2, 3, 16, 100, 827, 828} {
		for _, at := range []int{0, n / 2, n - 1} {
			for _, address := range []int{0, 1, 2, 255, 256, 32767, 32768, 65534, 65535} {
				for _, addresses := range [][]int{make([]int, n), from(1, n+1)} {
					addresses[at] = address
					both(t, addresses...)
				}
			}
			for _, address := range noAddresses() {
				for _, addresses := range [][]int{make([]int, n), from(1, n+1)} {
					addresses[at] = address
					noNew(t, addresses)
				}
			}
		}
	}
}

// One that is no address, at each place of the longest list, and behind its end.
func TestNewWithNoAddressAtEachPlace(t *testing.T) {
	for at := range 828 {
		for _, address := range []int{-1, 65536, math.MinInt, math.MaxInt} {
			addresses := from(1, 829)
			addresses[at] = address
			noNew(t, addresses)
			noNew(t, addresses[:at+1])
			noNew(t, addresses[at:])
		}
	}
	for _, address := range []int{-1, 0, 1, 65535, 65536} {
		noNew(t, append(from(1, 829), address))
	}
}

// Each address that there is, and some beside them.
func TestNewAtEachAddress(t *testing.T) {
	for first := 1; first <= 65535; first += 828 {
		addresses := from(first, min(first+828, 65536))
		m, err := New(addresses)
		if err != api.OK {
			t.Fatal(first, err)
		}
		for k, address := range addresses {
			if m.At(k) != address {
				t.Errorf("block %d is at %d, not %d", k, m.At(k), address)
			}
		}
	}
	for address := 65536; address < 70000; address++ {
		noNew(t, []int{address})
		noNew(t, []int{65535 - address})
	}
}

// Many blocks may be at one address.
func TestNewAtOneAddress(t *testing.T) {
	x := both(t, slices.Repeat([]int{65535}, 828)...)
	if there := x.m.There(); !slices.Equal(there, from(0, 828)) {
		t.Error(there)
	}
}
