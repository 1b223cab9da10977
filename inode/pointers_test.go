package inode

import (
	"bytes"
	"slices"
	"testing"
)

// By hand.
func TestPointersByHand(t *testing.T) {
	arePointers(t, nil, make([]byte, 56))
	arePointers(t, []int{}, make([]byte, 56))
	arePointers(t, []int{258}, append([]byte{2, 1}, make([]byte, 54)...))
	arePointers(t, []int{0, 1, 65535, 256}, append([]byte{0, 0, 1, 0, 255, 255, 0, 1}, make([]byte, 48)...))
	arePointers(t, slices.Repeat([]int{65535}, 28), bytes.Repeat([]byte{255}, 56))
	arePointers(t, slices.Repeat([]int{0}, 28), make([]byte, 56))
	arePointers(t, append(make([]int, 27), 772), append(make([]byte, 54), 4, 3))
}

// Lists of each length that a block has room for, and longer ones, whatever they are of.
func TestPointersOfEachLength(t *testing.T) {
	for n := range 100 {
		for _, list := range [][]int{from(1, n+1), from(65535-n, 65535), make([]int, n), slices.Repeat([]int{65535}, n), slices.Repeat([]int{258}, n)} {
			if n <= 28 {
				arePointers(t, list, plainPutPointers(list))
			} else {
				noPointers(t, list)
			}
		}
	}
	for _, n := range []int{29, 56, 255, 256, 257, 284, 65536, 65536 + 28} {
		noPointers(t, make([]int, n))
		noPointers(t, append(from(1, 29), make([]int, n)...))
	}
}

// Noughts behind pointers make no other block of them.
func TestPointersThatLack(t *testing.T) {
	for n := range 29 {
		list := from(1, n+1)
		for more := range 29 - n {
			arePointers(t, append(slices.Clone(list), make([]int, more)...), plainPutPointers(list))
		}
	}
}

// One that is no pointer, at each place of lists of each length.
func TestNoPointerAtEachPlace(t *testing.T) {
	wrong := append(append(strange(0), strange(9)...), -3, 65536, 65537, 65545, 1<<17, 1<<24, 1<<31)
	for n := 1; n <= 29; n++ {
		for at := range n {
			for _, p := range wrong {
				for _, list := range [][]int{make([]int, n), from(1, n+1)} {
					list[at] = p
					noPointers(t, list)
				}
			}
		}
	}
}

// One at each bound, at each place of lists of each length.
func TestPointerAtTheBoundsAtEachPlace(t *testing.T) {
	for n := 1; n <= 28; n++ {
		for at := range n {
			for _, p := range []int{0, 1, 255, 256, 32767, 32768, 65534, 65535} {
				for _, list := range [][]int{make([]int, n), from(1, n+1)} {
					list[at] = p
					arePointers(t, list, plainPutPointers(list))
				}
			}
		}
	}
}

// Each pointer that there is.
func TestEachPointer(t *testing.T) {
	for p := 0; p <= 65535; p += 28 {
		list := from(p, min(p+28, 65536))
		arePointers(t, list, plainPutPointers(list))
	}
}

// Bytes of each length, but of 56.
func TestGetPointersOfOtherLengths(t *testing.T) {
	noPointersGot(t, nil)
	noPointersGot(t, []byte{})
	for n := range 300 {
		if n == 56 {
			continue
		}
		noPointersGot(t, make([]byte, n))
		noPointersGot(t, bytes.Repeat([]byte{255}, n))
		noPointersGot(t, bytes.Repeat([]byte{1, 2}, n)[:n])
	}
	noPointersGot(t, make([]byte, 65536))
	noPointersGot(t, make([]byte, 65536+56))
}

// 56 bytes are always pointers: each byte at each place, in noughts and in others.
func TestGetPointersOfEachByte(t *testing.T) {
	for at := range 56 {
		for x := range 256 {
			for _, fill := range []byte{0, 7, 255} {
				b := bytes.Repeat([]byte{fill}, 56)
				b[at] = byte(x)
				list := slices.Repeat([]int{257 * int(fill)}, 28)
				if at%2 == 0 {
					list[at/2] = x + 256*int(fill)
				} else {
					list[at/2] = 256*x + int(fill)
				}
				arePointers(t, list, b)
			}
		}
	}
}

// There are 28 of them always, noughts too.
func TestGetPointersAnswersAll(t *testing.T) {
	for _, b := range [][]byte{make([]byte, 56), bytes.Repeat([]byte{255}, 56), append(make([]byte, 55), 1), append([]byte{1}, make([]byte, 55)...)} {
		if list, ok := GetPointers(b); len(list) != 28 || !ok {
			t.Error(list, ok)
		}
	}
}

// A record's bytes are pointers, too, and pointers' bytes may be a record's: nothing tells them apart but what they are asked for.
func TestBlocksAreWhatIsAskedOfThem(t *testing.T) {
	for _, r := range rights() {
		b := plainPut(r)
		list, ok := GetPointers(b)
		if !ok {
			t.Error("no pointers:", b)
		}
		arePointers(t, list, b)
		if got, ok := PutPointers(list); !ok {
			t.Error("no bytes:", list)
		} else {
			isRecord(t, r, got)
		}
	}
}
