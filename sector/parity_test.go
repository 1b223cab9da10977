package sector

import (
	"bytes"
	"slices"
	"strconv"
	"testing"

	"moraine/api"
)

// summing are the two calls, which answer alike.
func summing() map[string]func(list [][]byte) ([]byte, bool) {
	return map[string]func(list [][]byte) ([]byte, bool){"Parity": Parity, "Restore": Restore}
}

// made is a sector of a Seq; n tells it from others.
func made(t *testing.T, seq, n int) []byte {
	t.Helper()
	payload := make([]byte, 56)
	for i := range payload {
		payload[i] = byte(n*n*41 + i*(2*n+7) + i*i*n)
	}
	b, ok := Encode(head(seq, (n*7919+3)%65536, (n*4801+1)%65536), payload)
	if !ok {
		t.Fatal("no sector")
	}
	return b
}

// several are so many sectors of a Seq.
func several(t *testing.T, seq, n int) [][]byte {
	t.Helper()
	var out [][]byte
	for i := range n {
		out = append(out, made(t, seq, i+1))
	}
	return out
}

// lengths are how many sectors a list may have: one, some, and as many as an array has disks.
func lengths() []int {
	return []int{1, 2, 3, 4, 5, 8, 15, 16}
}

// plainSum: the first one's first 4 bytes, and bit by bit behind that whether those with the bit are odd.
func plainSum(list [][]byte) []byte {
	out := make([]byte, 64)
	copy(out, list[0][:4])
	for at := 4; at < 64; at++ {
		for bit := range 8 {
			n := 0
			for _, s := range list {
				n += int(s[at] >> bit & 1)
			}
			out[at] += byte(n % 2 << bit)
		}
	}
	return out
}

// without is a list without what is at a place.
func without(list [][]byte, at int) [][]byte {
	return slices.Concat(list[:at], list[at+1:])
}

// with is a list with another sector at a place.
func with(list [][]byte, at int, b []byte) [][]byte {
	out := slices.Clone(list)
	out[at] = b
	return out
}

// noSum holds both calls' answers of a list against that where there is none.
func noSum(t *testing.T, what string, list [][]byte) {
	t.Helper()
	for name, call := range summing() {
		if b, ok := call(list); len(b) != 0 || ok {
			t.Errorf("%s, %s: %v, %v", name, what, b, ok)
		}
	}
}

// sums holds both calls' answers of a list against a sector.
func sums(t *testing.T, what string, list [][]byte, want []byte) {
	t.Helper()
	for name, call := range summing() {
		if b, ok := call(list); !bytes.Equal(b, want) || !ok {
			t.Errorf("%s, %s: %v, %v, not %v", name, what, b, ok, want)
		}
	}
}

func TestExample(t *testing.T) {
	first, other := made(t, 258, 1), made(t, 258, 2)
	parity, ok := Parity([][]byte{first, other})
	if !ok {
		t.Fatal("no parity")
	}
	if got, ok := Restore([][]byte{other, parity}); !bytes.Equal(got, first) || !ok {
		t.Error(got, ok)
	}
}

func TestSumOfTwoAndThree(t *testing.T) {
	sector := func(h api.Head, payload ...byte) []byte {
		return plain(h, payload)
	}
	a := sector(head(0x01020304, 0x0F0F, 0xFF00), 1, 2, 4)
	b := sector(head(0x01020304, 0x00FF, 0xFFFF), 3, 2, 0, 8)
	c := sector(head(0x01020304, 1, 2), 0, 0, 0, 0, 255)
	sums(t, "two", [][]byte{a, b}, sector(head(0x01020304, 0x0FF0, 0x00FF), 2, 0, 4, 8))
	sums(t, "three", [][]byte{a, b, c}, sector(head(0x01020304, 0x0FF1, 0x00FD), 2, 0, 4, 8, 255))
}

func TestSumOfOneIsThatOne(t *testing.T) {
	for _, seq := range []int{0, 1, 258, 1 << 31, 1<<32 - 1} {
		one := made(t, seq, 5)
		sums(t, "one", [][]byte{one}, one)
	}
	sums(t, "noughts", [][]byte{make([]byte, 64)}, make([]byte, 64))
}

func TestSums(t *testing.T) {
	for _, seq := range []int{0, 1, 255, 256, 0x04030201, 1<<32 - 1} {
		for _, n := range lengths() {
			list := several(t, seq, n)
			sums(t, strconv.Itoa(n), list, plainSum(list))
		}
	}
}

// Of more sectors than any array has the answer is none other.
func TestSumOfMany(t *testing.T) {
	list := several(t, 9, 300)
	sums(t, "300", list, plainSum(list))
}

// A bit counts at each place behind the Seq, the head's too, in each sector of a list.
func TestEachBitCounts(t *testing.T) {
	list := several(t, 77, 4)
	sum := plainSum(list)
	for i := range list {
		for at := 4; at < 64; at++ {
			for bit := range 8 {
				turned, want := bytes.Clone(list[i]), bytes.Clone(sum)
				turned[at] ^= 1 << bit
				want[at] ^= 1 << bit
				sums(t, "a bit turned", with(list, i, turned), want)
			}
		}
	}
}

// The Seq stays as it is, whether as many have it as are even or odd.
func TestSeqIsNotSummed(t *testing.T) {
	for _, n := range lengths() {
		for _, call := range summing() {
			b, _ := call(several(t, 1<<32-1, n))
			if h, _, ok := Decode(b); h.Seq != 1<<32-1 || !ok {
				t.Errorf("of %d: %v, %v", n, h, ok)
			}
		}
	}
}

func TestOneSectorTwice(t *testing.T) {
	one, other := made(t, 3, 1), made(t, 3, 2)
	sums(t, "twice", [][]byte{one, one}, plain(head(3, 0, 0), nil))
	sums(t, "twice, and another", [][]byte{one, other, one}, other)
}

func TestOrderIsNothing(t *testing.T) {
	list := several(t, 12, 5)
	want := plainSum(list)
	for range list {
		list = append(list[1:], list[0])
		sums(t, "round", list, want)
	}
	slices.Reverse(list)
	sums(t, "back", list, want)
}

func TestSumOfNoSector(t *testing.T) {
	noSum(t, "nil", nil)
	noSum(t, "empty", [][]byte{})
}

// One other Seq is enough, at each place of the list, in each of its bits.
func TestAnotherSeq(t *testing.T) {
	for _, n := range lengths()[1:] {
		list := several(t, 0x04030201, n)
		for at := range list {
			for bit := range 32 {
				other := bytes.Clone(list[at])
				other[bit/8] ^= 1 << (bit % 8)
				noSum(t, "another Seq at "+strconv.Itoa(at), with(list, at, other))
			}
		}
	}
}

func TestTwoSeqsOfTwo(t *testing.T) {
	noSum(t, "two and two", slices.Concat(several(t, 1, 2), several(t, 2, 2)))
	noSum(t, "by turns", [][]byte{made(t, 1, 1), made(t, 2, 2), made(t, 1, 3), made(t, 2, 4)})
	noSum(t, "a nought", [][]byte{made(t, 0, 1), made(t, 1, 2)})
	noSum(t, "noughts", [][]byte{make([]byte, 64), made(t, 1, 2)})
}

// One that hasn't a sector's bytes is enough, at each place of the list, though its memory goes on.
func TestNotASectorsBytes(t *testing.T) {
	for _, n := range lengths() {
		list := several(t, 5, n)
		for at := range list {
			for _, length := range []int{0, 1, 3, 4, 8, 56, 63, 65, 66, 128} {
				long := append(bytes.Clone(list[at]), counting(64)...)
				noSum(t, strconv.Itoa(length)+" bytes at "+strconv.Itoa(at), with(list, at, long[:length]))
				noSum(t, strconv.Itoa(length)+" bytes without room at "+strconv.Itoa(at), with(list, at, long[:length:length]))
			}
			noSum(t, "nil at "+strconv.Itoa(at), with(list, at, nil))
		}
	}
}

func TestNoneHasASectorsBytes(t *testing.T) {
	for _, length := range []int{0, 4, 63, 65} {
		for _, n := range lengths() {
			list := slices.Repeat([][]byte{make([]byte, length)}, n)
			noSum(t, strconv.Itoa(n)+" of "+strconv.Itoa(length), list)
		}
	}
	noSum(t, "nils", make([][]byte, 3))
}

// Of each row that an array may have, each sector is told by all its others, the parity too.
func TestEachOfARowIsTold(t *testing.T) {
	for _, seq := range []int{0, 1, 1 << 30, 1<<32 - 1} {
		for disks := 3; disks <= 16; disks++ {
			blocks := several(t, seq, disks-1)
			parity, ok := Parity(blocks)
			if !ok {
				t.Fatalf("%d disks: no parity", disks)
			}
			row := append(slices.Clone(blocks), parity)
			for at := range row {
				if got, ok := Restore(without(row, at)); !bytes.Equal(got, row[at]) || !ok {
					t.Errorf("%d disks, without %d: %v, %v", disks, at, got, ok)
				}
			}
			if got, ok := Restore(row); !bytes.Equal(got, plain(head(seq, 0, 0), nil)) || !ok {
				t.Errorf("%d disks, all of them: %v, %v", disks, got, ok)
			}
		}
	}
}

// A row of noughts with one block is told, too: its parity is that one.
func TestRowOfOneBlock(t *testing.T) {
	nought := plain(head(6, 0, 0), nil)
	block := made(t, 6, 3)
	row := [][]byte{nought, block, nought, block}
	for at := range row {
		if got, ok := Restore(without(row, at)); !bytes.Equal(got, row[at]) || !ok {
			t.Errorf("without %d: %v, %v", at, got, ok)
		}
	}
}

// handed is a list of sectors, each with room behind it, and the list with room too; the second result tells all their memory.
func handed(list [][]byte) ([][]byte, [][]byte) {
	var in, all [][]byte
	for _, s := range list {
		b, whole := within(s)
		in, all = append(in, b), append(all, whole)
	}
	room := append(in, []byte{hidden}, []byte{hidden})
	return room[:len(list)], append(all, room[len(list)], room[len(list)+1])
}

// copied: a list and what its lists have, in new memory.
func copied(list [][]byte) [][]byte {
	out := make([][]byte, len(list))
	for i, b := range list {
		out[i] = bytes.Clone(b)
	}
	return out
}

// alike: have two lists the same bytes?
func alike(a, b [][]byte) bool {
	return slices.EqualFunc(a, b, bytes.Equal)
}

func TestSumsAnswerNewMemory(t *testing.T) {
	for name, call := range summing() {
		for _, n := range []int{0, 1, 2, 3, 16} {
			list, all := handed(several(t, 4, n))
			places, before := slices.Clone(list), copied(all)
			got, _ := call(list)
			other, _ := call(list)
			was := bytes.Clone(got)
			if !alike(all, before) || !alike(list, places) || !alike(list[:n+2][n:], before[n:]) {
				t.Errorf("%s of %d: what was handed in was changed", name, n)
			}
			if !bytes.Equal(got, other) {
				t.Errorf("%s of %d: %v, then %v", name, n, got, other)
			}
			spoil(other)
			if !alike(all, before) || !bytes.Equal(got, was) {
				t.Errorf("%s of %d: what is answered is no new memory", name, n)
			}
			for _, b := range all {
				spoil(b)
			}
			if !bytes.Equal(got, was) {
				t.Errorf("%s of %d: what was handed in was kept", name, n)
			}
		}
	}
}

// With nothing to answer, too, what was handed in is as it was.
func TestRefusedListsAreAsTheyWere(t *testing.T) {
	for _, list := range [][][]byte{
		{made(t, 1, 1), made(t, 1, 2), made(t, 2, 3)},
		{made(t, 1, 1), counting(63)},
		{counting(65), made(t, 1, 1)},
		{nil},
	} {
		in, all := handed(list)
		before := copied(all)
		noSum(t, "refused", in)
		if !alike(all, before) {
			t.Errorf("a list of %d was changed", len(list))
		}
	}
}
