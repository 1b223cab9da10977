package file

import (
	"bytes"
	"slices"
	"testing"
	"unsafe"

	"moraine/api"
)

// fill fills all memory of a list, the room behind its end, too.
func fill[T any](list []T, with T) {
	whole := list[:cap(list)]
	for i := range whole {
		whole[i] = with
	}
}

// reach: where a list lies, with the room behind its end: its first byte, and the one behind its last one.
func reach[T any](list []T) [2]uintptr {
	var one T
	at := uintptr(unsafe.Pointer(unsafe.SliceData(list)))
	return [2]uintptr{at, at + uintptr(cap(list))*unsafe.Sizeof(one)}
}

// apart: have no two of these a byte of memory in common?
func apart(all ...[2]uintptr) bool {
	slices.SortFunc(all, func(a, b [2]uintptr) int { return int(int64(a[0]) - int64(b[0])) })
	// Lists without room lie nowhere.
	all = slices.DeleteFunc(all, func(a [2]uintptr) bool { return a[0] == a[1] })
	for i := 1; i < len(all); i++ {
		if all[i-1][1] > all[i][0] {
			return false
		}
	}
	return true
}

// hidden lies behind the length of a list that is handed in, in its memory.
func hidden[T any](list []T, more ...T) (handed, whole []T) {
	whole = append(slices.Clone(list), more...)
	return whole[:len(list)], whole
}

// New changes no addresses, nor what lies behind them; nothing is told by that, and nothing kept.
func TestNewChangesNoAddresses(t *testing.T) {
	for _, size := range []int{0, 1, 56, 57, 560, 46368} {
		for _, addresses := range [][]int{nil, {5}, {5, 0}, {-1}, {0, 65536}, from(1, 11), from(1, 12), from(1, 829), from(1, 830)} {
			handed, whole := hidden(addresses, slices.Repeat([]int{7, -9, 65536}, 300)...)
			before := slices.Clone(whole)
			d := newDisk()
			f, err := New(size, handed, d)
			if !slices.Equal(whole, before) {
				t.Errorf("%v: they are changed", addresses)
			}
			p, ok := plainNew(size, addresses, d)
			if !ok {
				if f != nil || err != api.ErrRange {
					t.Error(f, err)
				}
				continue
			}
			x := &pair{t, f, p}
			x.same()
			fill(whole, 3)
			x.same()
			x.write(0, rising(200, 1))
			x.trunc(100)
			if !slices.Equal(whole, slices.Repeat([]int{3}, len(whole))) {
				t.Errorf("%v: they are changed by a later call", addresses)
			}
			x.same()
		}
	}
}

// Write changes no bytes, nor what lies behind them; nothing is told by that, and nothing kept.
func TestWriteChangesNoBytes(t *testing.T) {
	for _, at := range []int{0, 1, 40, 56, 100, 1690, 1697, 2000, 46368, -1} {
		for _, n := range []int{0, 1, 16, 55, 56, 57, 112, 300} {
			x := mixed(t)
			handed, whole := hidden(rising(n, 5), rising(200, 100)...)
			before := slices.Clone(whole)
			x.write(at, handed)
			if !bytes.Equal(whole, before) {
				t.Errorf("%d bytes at %d: they are changed", n, at)
			}
			x.same()
			fill(whole, 0)
			x.same()
			x.write(at, filled(n, 9))
			x.trunc(at + n/2)
			if !bytes.Equal(whole, make([]byte, len(whole))) {
				t.Errorf("%d bytes at %d: they are changed by a later call", n, at)
			}
			x.same()
		}
	}
}

// The Source's bytes aren't changed, nor what lies behind them, and they aren't kept.
func TestNoBytesOfTheSourceAreChanged(t *testing.T) {
	for _, change := range changes() {
		x := mixed(t)
		d := x.p.from
		was := make(map[int][]byte)
		whole := make(map[int][]byte)
		for address, b := range d.bytes {
			d.bytes[address], whole[address] = hidden(b, rising(60, 4)...)
			was[address] = slices.Clone(whole[address])
		}
		x.same()
		change(x)
		x.same()
		for address, b := range whole {
			if !bytes.Equal(b, was[address]) {
				t.Errorf("the bytes at %d are changed: %v", address, b)
			}
			// What isn't at an address any more doesn't hang on this.
			fill(b, 0x5A)
		}
		x.same()
	}
}

// A Source may answer all its blocks in one and the same memory.
func TestSourceLendsItsMemory(t *testing.T) {
	for _, change := range changes() {
		x := mixed(t)
		y := mixed(t)
		f, err := New(30*56+17, addressesOf(y), &lender{of: y.p.from})
		if err != api.OK {
			t.Fatal(err)
		}
		for k := 1; k < 30; k += 3 {
			f.Write(56*k, rising(56, k))
		}
		y.f = f
		y.same()
		change(x)
		change(y)
		x.same()
		y.same()
		y.read(0, 46368)
		y.same()
	}
}

// addressesOf: where the blocks of a file are.
func addressesOf(x *pair) []int {
	var out []int
	for k := range (x.p.size + 55) / 56 {
		out = append(out, x.p.cells[k].address)
	}
	return out
}

// What Read answers is new memory: no other answer's, nor the Source's, nor the file's, nor what was handed in.
func TestReadAnswersNewMemory(t *testing.T) {
	x := mixed(t)
	data := rising(112, 3)
	x.write(56, data)
	var all [][]byte
	for range 3 {
		for _, c := range [][2]int{{0, 0}, {0, 1}, {0, 56}, {56, 56}, {56, 112}, {112, 56}, {0, 46368}, {30, 500}, {1680, 17}, {1690, 100}} {
			got, _ := x.read(c[0], c[1])
			all = append(all, got)
		}
	}
	y := x.clone()
	got, _ := y.read(0, 46368)
	all = append(all, got)
	places := [][2]uintptr{reach(data)}
	for _, b := range all {
		places = append(places, reach(b))
	}
	for _, b := range x.p.from.bytes {
		places = append(places, reach(b))
	}
	if !apart(places...) {
		t.Error("memory is shared")
	}
	for _, b := range all {
		fill(b, 0x77)
	}
	x.same()
	y.same()
	if !bytes.Equal(data, rising(112, 3)) {
		t.Error("what was handed in is changed")
	}
}

// Answers stay as they were, whatever is done to the file.
func TestAnswersStay(t *testing.T) {
	for _, change := range changes() {
		x := mixed(t)
		got, _ := x.read(0, 46368)
		want := slices.Clone(got)
		change(x)
		for _, b := range x.p.from.bytes {
			fill(b, 0x31)
		}
		if !bytes.Equal(got, want) {
			t.Error("an answer is changed by a later call")
		}
	}
}

// What one call answers may be handed to the next ones, and what the Source answers, too.
func TestAnswersAreHandedOn(t *testing.T) {
	x := mixed(t)
	for _, at := range []int{0, 1, 56, 90, 1000, 3000} {
		got, _ := x.read(at/2, 300)
		x.write(at, got)
		x.same()
		x.write(at+56, x.p.from.bytes[3])
		x.same()
	}
}

// The Source is asked anew at each call: nothing is remembered of what it told.
func TestNothingIsRemembered(t *testing.T) {
	d := newDisk()
	x := made(t, d, 300, 1, 2, 3, 4, 5, 6)
	x.same()
	d.bytes[3] = filled(56, 88)
	x.same()
	d.wrong[3] = 5
	x.refused(5, x.reading(0, 300))
	x.refused(5, func() api.Errno { return x.write(130, []byte{1}) })
	x.refused(5, func() api.Errno { return x.trunc(130) })
	d.wrong[3] = api.OK
	x.same()
	x.write(130, []byte{1})
	x.same()
	d.bytes[3] = filled(56, 89)
	x.same()
	if got, _ := x.read(120, 1); !slices.Equal(got, []byte{88}) {
		t.Error(got)
	}
	fill(d.bytes[1], 66)
	x.same()
}

// Two files of the same addresses and Source have nothing else in common.
func TestFilesAreTheirOwn(t *testing.T) {
	d := newDisk()
	addresses := from(1, 12)
	x, y := made(t, d, 600, addresses...), made(t, d, 600, addresses...)
	for _, change := range changes()[:14] {
		change(x)
		y.same()
	}
	x.same()
}
