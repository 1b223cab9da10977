package block

import (
	"slices"
	"testing"
)

// areLists holds Fresh and There against lists by hand.
func areLists(t *testing.T, m *Map, fresh, there []int) {
	t.Helper()
	if got := m.Fresh(); !slices.Equal(got, fresh) {
		t.Errorf("new are %v, not %v", got, fresh)
	}
	if got := m.There(); !slices.Equal(got, there) {
		t.Errorf("there are %v, not %v", got, there)
	}
}

// A map without blocks.
func TestListsOfNothing(t *testing.T) {
	m, _ := New(nil)
	areLists(t, m, nil, nil)
	areLists(t, m.Clone(), nil, nil)
	m.Put(3, make([]byte, 56))
	areLists(t, m, nil, nil)
	m.Put(3, filled(1)[:55])
	areLists(t, m, nil, nil)
	m.Put(828, filled(1))
	areLists(t, m, nil, nil)
	m.Put(-1, filled(1))
	areLists(t, m, nil, nil)
	m.Place(3, 1)
	areLists(t, m, nil, nil)
	m.Move(1, 3)
	areLists(t, m, nil, nil)
	m.Cut(0)
	areLists(t, m, nil, nil)
}

// A map with one block, of each kind, at each place.
func TestListsOfOne(t *testing.T) {
	for k := range 828 {
		m, _ := New(append(make([]int, k), 9))
		areLists(t, m, nil, []int{k})
		m.Put(k, one(k%56, 1))
		areLists(t, m, []int{k}, []int{k})
		m.Place(k, 65535)
		areLists(t, m, nil, []int{k})
		m.Move(65535, 1)
		areLists(t, m, nil, []int{k})
		m.Put(k, make([]byte, 56))
		areLists(t, m, nil, nil)
		m.Put(k, one(k%56, 1))
		m.Cut(k + 1)
		areLists(t, m, []int{k}, []int{k})
		m.Cut(k)
		areLists(t, m, nil, nil)
	}
}

// A map with all 828 blocks, of each kind, whatever the order in which they came.
func TestListsOfAll(t *testing.T) {
	all := from(0, 828)
	m, _ := New(from(1, 829))
	areLists(t, m, nil, all)
	for i := range 828 {
		m.Put(5*i%828, filled(1))
	}
	areLists(t, m, all, all)
	for i := range 828 {
		m.Place(827-i, 828-i)
	}
	areLists(t, m, nil, all)
	for i := range 414 {
		m.Put(827-2*i, filled(2))
	}
	var odd []int
	for _, k := range all {
		if k%2 == 1 {
			odd = append(odd, k)
		}
	}
	areLists(t, m, odd, all)
}

// Behind each of the other calls.
func TestListsBehindEachCall(t *testing.T) {
	m, _ := New([]int{5, 0, 5, 7})
	areLists(t, m, nil, []int{0, 2, 3})
	m.Put(827, filled(1))
	areLists(t, m, []int{827}, []int{0, 2, 3, 827})
	m.Put(1, filled(1))
	areLists(t, m, []int{1, 827}, []int{0, 1, 2, 3, 827})
	m.Put(2, filled(1))
	areLists(t, m, []int{1, 2, 827}, []int{0, 1, 2, 3, 827})
	m.Place(827, 5)
	areLists(t, m, []int{1, 2}, []int{0, 1, 2, 3, 827})
	m.Place(2, 0)
	areLists(t, m, []int{1, 2}, []int{0, 1, 2, 3, 827})
	m.Move(5, 6)
	areLists(t, m, []int{1, 2}, []int{0, 1, 2, 3, 827})
	m.Put(0, make([]byte, 56))
	areLists(t, m, []int{1, 2}, []int{1, 2, 3, 827})
	m.Put(1, make([]byte, 56))
	areLists(t, m, []int{2}, []int{2, 3, 827})
	areLists(t, m.Clone(), []int{2}, []int{2, 3, 827})
	m.Cut(3)
	areLists(t, m, []int{2}, []int{2})
	m.At(2)
	m.Bytes(2)
	areLists(t, m, []int{2}, []int{2})
	m.Cut(2)
	areLists(t, m, nil, nil)
}

// The lists rise, however the map was filled; they are the same each time.
func TestListsRise(t *testing.T) {
	x := mixed(t)
	first, second := x.m.Fresh(), x.m.There()
	if !slices.IsSorted(first) || !slices.IsSorted(second) {
		t.Error(first, second)
	}
	for range 50 {
		areLists(t, x.m, first, second)
		areLists(t, x.m.Clone(), first, second)
	}
}
