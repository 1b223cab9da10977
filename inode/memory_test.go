package inode

import (
	"bytes"
	"slices"
	"testing"
	"unsafe"

	"moraine/api"
)

// fill fills all memory of a list, the room behind its end, too.
func fill[T any](list []T, with T) {
	whole := list[:cap(list)]
	for i := range whole {
		whole[i] = with
	}
}

// reach: where a list lies, with the room behind its end: its first byte, and the one behind its last one.
func reach[T any](list []T) [2]uintptr {
	var one T
	at := uintptr(unsafe.Pointer(unsafe.SliceData(list)))
	return [2]uintptr{at, at + uintptr(cap(list))*unsafe.Sizeof(one)}
}

// apart: have no two of these a byte of memory in common?
func apart(all ...[2]uintptr) bool {
	for i, a := range all {
		for _, b := range all[:i] {
			if a[0] < b[1] && b[0] < a[1] {
				return false
			}
		}
	}
	return true
}

// memoryLists are lists of pointers, right ones and others.
func memoryLists() [][]int {
	return [][]int{nil, {5}, from(1, 28), from(1, 29), from(1, 30), make([]int, 28), {65535, 0, 65535}, {9, -1, 8}, {65536}, slices.Repeat([]int{65535}, 28), from(28, 60)}
}

// memoryBytes are bytes, of records, of pointers, and of neither.
func memoryBytes() [][]byte {
	out := [][]byte{nil, {1}, make([]byte, 55), make([]byte, 56), make([]byte, 57), bytes.Repeat([]byte{255}, 56), plainPutPointers(from(1, 29))}
	for _, r := range slices.Concat(rights(), wrongs()) {
		out = append(out, plainPut(r))
	}
	return append(out, append(plainPut(rights()[5]), 0), plainPut(rights()[5])[:55])
}

// hidden lies behind the length of a list that is handed in, in its memory.
func hidden[T any](list []T, more ...T) (handed, whole []T) {
	whole = append(slices.Clone(list), more...)
	return whole[:len(list)], whole
}

// No list of pointers is changed, nor what lies behind it.
func TestNoListIsChanged(t *testing.T) {
	for _, list := range memoryLists() {
		handed, whole := hidden(list, slices.Repeat([]int{7, -9, 65536}, 20)...)
		before := slices.Clone(whole)
		PutPointers(handed)
		if !slices.Equal(whole, before) {
			t.Errorf("%v: it is changed: %v", list, whole)
		}
	}
}

// No bytes are changed, nor what lies behind them; nor is anything told by that.
func TestNoBytesAreChanged(t *testing.T) {
	for _, b := range memoryBytes() {
		handed, whole := hidden(b, bytes.Repeat([]byte{0, 7, 255}, 40)...)
		before := slices.Clone(whole)
		r, ok := Get(handed)
		list, all := GetPointers(handed)
		if !bytes.Equal(whole, before) {
			t.Errorf("%v: they are changed: %v", b, whole)
		}
		if tight, is := Get(slices.Clip(slices.Clone(b))); tight != r || is != ok {
			t.Errorf("%v: what lies behind them tells: %v, %v, %v, %v", b, r, ok, tight, is)
		}
		if tight, is := GetPointers(slices.Clip(slices.Clone(b))); !slices.Equal(tight, list) || is != all {
			t.Errorf("%v: what lies behind them tells: %v, %v", b, list, all)
		}
	}
}

// What lies behind a list of pointers isn't told.
func TestHiddenPointersAreNotTold(t *testing.T) {
	for n := range 29 {
		for _, more := range []int{-1, 1, 65535, 65536} {
			handed, _ := hidden(from(1, n+1), slices.Repeat([]int{more}, 60)...)
			arePointers(t, handed, plainPutPointers(from(1, n+1)))
		}
	}
}

// What Put answers is no other answer's memory, the room behind its end neither: of each record, right behind the same one, and behind others.
func TestPutAnswersNewMemory(t *testing.T) {
	var put []api.Record
	var all [][]byte
	for _, r := range slices.Repeat(rights(), 2) {
		first, _ := Put(r)
		second, _ := Put(r)
		put, all = append(put, r, r), append(all, first, second)
	}
	for i, b := range all {
		for _, other := range all[:i] {
			if !apart(reach(b), reach(other)) {
				t.Fatal("answers share memory")
			}
		}
	}
	for i, b := range all {
		if want := plainPut(put[i]); !bytes.Equal(b, want) {
			t.Errorf("an answer is another one's: %v, not %v", b, want)
		}
		fill(b, 0x77)
	}
	for _, r := range rights() {
		isRecord(t, r, plainPut(r))
	}
}

// newMemory holds what a call answers against what is handed in, and against what it answered before: none of them is another one's memory.
func newMemory[In, Out comparable](t *testing.T, call func([]In) ([]Out, bool), in []In, turnIn In, turnOut Out) {
	t.Helper()
	want, _ := call(slices.Clone(in))
	memory := slices.Clone(in)
	first, _ := call(memory)
	second, _ := call(memory)
	if !apart(reach(first), reach(second), reach(memory), reach(want)) {
		t.Errorf("%v: memory is shared", in)
	}
	fill(first, turnOut)
	if !slices.Equal(second, want) || !slices.Equal(memory, in) {
		t.Errorf("%v: an answer is another one's", in)
	}
	fill(memory, turnIn)
	if !slices.Equal(second, want) {
		t.Errorf("%v: kept is what was handed in", in)
	}
	if third, _ := call(in); !slices.Equal(third, want) {
		t.Errorf("%v: %v, not %v", in, third, want)
	}
}

// So with the bytes that PutPointers answers, and with the list that GetPointers does.
func TestPointersAnswerNewMemory(t *testing.T) {
	for _, list := range memoryLists() {
		newMemory(t, PutPointers, list, -5, 0x77)
	}
	for _, b := range memoryBytes() {
		newMemory(t, GetPointers, b, 0x55, -5)
	}
}

// A record that is got stands for itself: bytes that are turned then don't turn it, nor does it turn another one.
func TestGetAnswersNewMemory(t *testing.T) {
	for _, want := range rights() {
		b := plainPut(want)
		first, _ := Get(b)
		second, _ := Get(b)
		fill(b, 0x33)
		if first != want || second != want {
			t.Errorf("%v: kept is what was handed in", want)
		}
		fill(first.Direct[:], -5)
		first.Single, first.Double = -6, -7
		if second != want {
			t.Errorf("%v: an answer is another one's", want)
		}
		isRecord(t, want, plainPut(want))
	}
}

// A record that is handed in is as it was.
func TestPutChangesNoRecord(t *testing.T) {
	for _, r := range slices.Concat(rights(), wrongs()) {
		same := r
		Put(same)
		if same != r {
			t.Errorf("%v: it is changed: %v", r, same)
		}
	}
}

// Memory that now has something else is answered as that: nothing is remembered by where it is.
func TestNothingIsRemembered(t *testing.T) {
	b := plainPut(filled(api.KDir, 2, 46368))
	isRecord(t, filled(api.KDir, 2, 46368), b)
	b[0] = 1
	isRecord(t, filled(api.KFile, 2, 46368), b)
	b[1] = 0
	notGot(t, b)
	copy(b, plainPut(bare(3)))
	isRecord(t, bare(3), b)
	arePointers(t, []int{257, 768}, b)
	b[55] = 1
	notGot(t, b)
	arePointers(t, append([]int{257, 768}, append(make([]int, 25), 256)...), b)

	list := from(1, 29)
	arePointers(t, list, plainPutPointers(from(1, 29)))
	list[27] = 65536
	noPointers(t, list)
	list[27] = 65535
	arePointers(t, list, plainPutPointers(append(from(1, 28), 65535)))
	clear(list)
	arePointers(t, list, make([]byte, 56))
}

// What one call answers may be handed to the next ones.
func TestAnswersAreHandedOn(t *testing.T) {
	for _, r := range rights() {
		b, _ := Put(r)
		isRecord(t, r, b)
		list, _ := GetPointers(b)
		arePointers(t, list, b)
		again, _ := PutPointers(list)
		isRecord(t, r, again)
	}
}
