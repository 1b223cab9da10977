package block

import (
	"bytes"
	"slices"
	"testing"
	"unsafe"

	"moraine/api"
)

// fill fills all memory of a list, the room behind its end, too.
func fill[T any](list []T, with T) {
	whole := list[:cap(list)]
	for i := range whole {
		whole[i] = with
	}
}

// reach: where a list lies, with the room behind its end: its first byte, and the one behind its last one.
func reach[T any](list []T) [2]uintptr {
	var one T
	at := uintptr(unsafe.Pointer(unsafe.SliceData(list)))
	return [2]uintptr{at, at + uintptr(cap(list))*unsafe.Sizeof(one)}
}

// apart: have no two of these a byte of memory in common?
func apart(all ...[2]uintptr) bool {
	for i, a := range all {
		for _, b := range all[:i] {
			if a[0] < b[1] && b[0] < a[1] {
				return false
			}
		}
	}
	return true
}

// hidden lies behind the length of a list that is handed in, in its memory.
func hidden[T any](list []T, more ...T) (handed, whole []T) {
	whole = append(slices.Clone(list), more...)
	return whole[:len(list)], whole
}

// New changes no addresses, nor what lies behind them, and nothing is told by that.
func TestNewChangesNoAddresses(t *testing.T) {
	for _, addresses := range [][]int{nil, {5}, {5, 0, 7}, {0, 65536}, {-1}, from(1, 828), from(1, 829), from(1, 830), make([]int, 828), slices.Repeat([]int{65535}, 828)} {
		handed, whole := hidden(addresses, slices.Repeat([]int{7, -9, 65536}, 300)...)
		before := slices.Clone(whole)
		m, err := New(handed)
		if !slices.Equal(whole, before) {
			t.Errorf("%v: they are changed", addresses)
		}
		p, ok := plainNew(addresses)
		if !ok {
			if m != nil || err != api.ErrRange {
				t.Error(m, err)
			}
			continue
		}
		x := &pair{t, m, p}
		x.same()
		fill(whole, 3)
		x.same()
		changes()[10](x)
		if !slices.Equal(whole, slices.Repeat([]int{3}, len(whole))) {
			t.Errorf("%v: they are changed by a later call", addresses)
		}
	}
}

// Put changes no bytes, nor what lies behind them, and nothing is told by that.
func TestPutChangesNoBytes(t *testing.T) {
	for n := range 60 {
		for _, y := range []byte{0, 1, 255} {
			b := bytes.Repeat([]byte{y}, n)
			handed, whole := hidden(b, bytes.Repeat([]byte{0, 7, 255}, 40)...)
			before := slices.Clone(whole)
			x := unlooked(t, []int{5, 6})
			x.put(0, handed)
			x.put(700, handed)
			if !bytes.Equal(whole, before) {
				t.Errorf("%v: they are changed: %v", b, whole)
			}
			fill(whole, 0x33)
			x.same()
		}
	}
}

// What is put isn't kept where it lies: bytes that are turned then don't turn the block, and the block's own calls don't turn them.
func TestPutKeepsNoMemory(t *testing.T) {
	x := both(t, 1, 2, 3)
	b := filled(7)
	for k := range 828 {
		fill(b, byte(1+k%255))
		x.put(k, b)
	}
	x.same()
	fill(b, 0)
	x.same()
	x.cut(5)
	x.place(0, 3)
	x.put(1, make([]byte, 56))
	if !bytes.Equal(b, make([]byte, 56)) {
		t.Error("what was handed in is changed:", b)
	}
	x.same()
}

// What Bytes answers is new memory: no other answer's, nor another block's, nor the map's.
func TestBytesAnswersNewMemory(t *testing.T) {
	x := mixed(t)
	clone := x.clone()
	b := filled(99)
	x.put(1, b)
	var all [][]byte
	for range 3 {
		for k := range 828 {
			if got, ok := x.m.Bytes(k); ok {
				all = append(all, got)
			}
			if got, ok := clone.m.Bytes(k); ok && k < 30 {
				all = append(all, got)
			}
		}
	}
	slices.SortFunc(all, func(a, b []byte) int {
		if reach(a)[0] < reach(b)[0] {
			return -1
		}
		return 1
	})
	for i := 1; i < len(all); i++ {
		if !apart(reach(all[i-1]), reach(all[i]), reach(b)) {
			t.Fatal("memory is shared")
		}
	}
	for _, got := range all {
		fill(got, 0)
	}
	x.same()
	clone.same()
	if !bytes.Equal(b, filled(99)) {
		t.Error("what was handed in is changed:", b)
	}
}

// What Fresh and There answer is new memory, too.
func TestListsAnswerNewMemory(t *testing.T) {
	newer := both(t)
	for k := range 50 {
		newer.put(k, filled(1))
	}
	for _, x := range []*pair{both(t), both(t, 5), both(t, from(1, 829)...), mixed(t), newer} {
		first, second, third, fourth := x.m.Fresh(), x.m.Fresh(), x.m.There(), x.m.There()
		fifth, sixth := x.m.Clone().Fresh(), x.m.Clone().There()
		if !apart(reach(first), reach(second), reach(third), reach(fourth), reach(fifth), reach(sixth)) {
			t.Error("memory is shared")
		}
		for _, list := range [][]int{first, second, third, fourth, fifth, sixth} {
			fill(list, -5)
		}
		x.same()
	}
}

// Answers stay as they were, whatever is done to the map.
func TestAnswersStay(t *testing.T) {
	for _, change := range changes() {
		x := mixed(t)
		b, _ := x.m.Bytes(1)
		fresh, there := x.m.Fresh(), x.m.There()
		change(x)
		before := mixed(t)
		if string(b) != before.p[1].bytes || !slices.Equal(fresh, before.p.numbers(isNew)) || !slices.Equal(there, before.p.numbers(isNew, isAt)) {
			t.Error("an answer is changed by a later call")
		}
	}
}

// What one call answers may be handed to the next ones.
func TestAnswersAreHandedOn(t *testing.T) {
	x := mixed(t)
	b, _ := x.m.Bytes(1)
	x.put(0, b)
	x.put(1, b)
	b[0]++
	x.put(2, b)
	b[0]++
	x.same()
	y := both(t, x.m.There()...)
	y.same()
	z := both(t, x.m.Fresh()...)
	z.same()
}

// Two maps of the same addresses have nothing in common.
func TestMapsAreTheirOwn(t *testing.T) {
	addresses := from(1, 829)
	x, y := both(t, addresses...), both(t, addresses...)
	for _, change := range changes() {
		change(x)
		y.same()
	}
	x.same()
}
