package meta

import (
	"slices"
	"testing"

	"moraine/api"
)

// fault is something that makes an image wrong.
type fault func(x *image)

// number: the fault that a number of two bytes in a block is another one.
func number(owner, index, place, n int) fault {
	return func(x *image) {
		b := slices.Clone(x.bytes[x.at(owner, index)])
		copy(b[place:], low(n, 2))
		x.bytes[x.at(owner, index)] = b
	}
}

// withError: the fault that a block can't be read.
func withError(owner, index int, err api.Errno) fault {
	return func(x *image) { x.wrong[x.at(owner, index)] = err }
}

// tooShort: the fault that a block has too few bytes.
func tooShort(owner, index int) fault {
	return func(x *image) { x.bytes[x.at(owner, index)] = x.bytes[x.at(owner, index)][:55] }
}

// empty: the fault that a block has nothing but noughts.
func empty(owner, index int) fault {
	return func(x *image) { x.bytes[x.at(owner, index)] = make([]byte, 56) }
}

// faults are many, in all blocks of the small list: each in the order in which it is told, where it can be told by its error.
func faults() []fault {
	var out []fault
	blocks := [][2]int{{0, 0}, {0, 1}, {0, 2}, {1, 999}, {2, 999}, {2, 1000}, {2, 1100}, {2, 1001}, {2, 1002}, {2, 1003}, {40, 999}, {40, 1000}}
	for i, b := range blocks {
		out = append(out, withError(b[0], b[1], api.Errno(100+i)))
		if b != [2]int{0, 0} {
			out = append(out, empty(b[0], b[1]))
		}
	}
	for _, b := range blocks[3:] {
		for _, place := range []int{ownAt, ownAt + 2, 31, singleAt, doubleAt} {
			out = append(out, number(b[0], b[1], place, 65535))
		}
	}
	return append(out,
		number(0, 0, 0, 9), number(0, 0, 6, 9), number(0, 0, 54, 9), number(0, 0, 2, 65535), number(0, 0, 4, 65535),
		number(0, 1, 0, 65535), number(0, 1, 0, 0), number(0, 1, 2, 65535), number(0, 1, 4, 65535), number(0, 1, 54, 3777), number(0, 2, 22, 65535), number(0, 2, 54, 65535),
		number(1, 999, 0, 1+256*2), number(2, 999, 3, 44*56), number(2, 999, 3, 16*56), number(2, 999, 3, 60*56), number(2, 999, 3, 72*56), number(2, 999, 55, 1),
		number(2, 1100, 0, 65535), number(2, 1100, 54, 65535), number(2, 1100, 54, 7), number(2, 1000, 54, 65535), number(2, 1003, 54, 7),
		tooShort(0, 0), tooShort(0, 2), tooShort(2, 1000), tooShort(40, 999),
	)
}

// fresh: the small list's image once more, with a file of three of Double's pointers' blocks.
func fresh(t *testing.T) *image {
	t.Helper()
	return built(t, wide(), small())
}

// Each fault, each two of them, in both orders: the first one is told, as in the plain way.
func TestWhichOfTwoFaults(t *testing.T) {
	all := faults()
	seen := make(map[api.Errno]int)
	for i, one := range all {
		for _, other := range all[:i+1] {
			for _, row := range [][]fault{{one, other}, {other, one}} {
				x := fresh(t)
				for _, f := range row {
					f(x)
				}
				seen[x.loads()]++
			}
		}
	}
	for err := api.Errno(100); err < 112; err++ {
		if seen[err] < 20 {
			t.Errorf("%v: %d times", err, seen[err])
		}
	}
	if seen[api.ErrCorrupt] < 1000 {
		t.Error(seen)
	}
}

// Each fault with an error of each block.
func TestEachFaultAndEachError(t *testing.T) {
	for _, f := range faults() {
		for _, address := range fresh(t).order() {
			x := fresh(t)
			f(x)
			x.wrong[address] = 77
			x.loads()
		}
	}
}

// By hand: which of two is told.
func TestOrderByHand(t *testing.T) {
	for i, c := range []struct {
		one, other fault
		want       api.Errno
	}{
		// An error is told ahead of what the bytes beside it are.
		{withError(0, 0, 50), number(0, 0, 0, 9), 50},
		{withError(2, 999, 50), tooShort(2, 999), 50},
		{withError(2, 999, 50), number(2, 999, 0, 9), 50},
		// The root ahead of the charts; one chart ahead of the other; both ahead of the records.
		{withError(0, 1, 50), number(0, 0, 0, 9), api.ErrCorrupt},
		{withError(0, 1, 50), number(0, 0, 6, 9), api.ErrCorrupt},
		{withError(0, 1, 50), withError(0, 2, 51), 50},
		{withError(0, 1, 50), number(0, 0, 4, 65535), 50},
		{withError(0, 2, 50), number(0, 0, 2, 65535), api.ErrCorrupt},
		{withError(0, 2, 50), number(0, 1, 0, 65535), 50},
		{withError(0, 2, 50), withError(1, 999, 51), 50},
		// A node ahead of the next one.
		{withError(1, 999, 50), number(0, 1, 2, 65535), 50},
		{withError(2, 999, 50), number(0, 1, 0, 65535), api.ErrCorrupt},
		{withError(2, 999, 50), withError(1, 999, 51), 51},
		{withError(2, 999, 50), number(1, 999, ownAt+2, 65535), api.ErrCorrupt},
		{withError(40, 999, 50), number(2, 1002, 54, 65535), api.ErrCorrupt},
		{withError(40, 999, 50), withError(2, 1003, 51), 51},
		{withError(40, 999, 50), number(0, 2, 24, 65535), 50},
		// A record ahead of what it tells: Single's block, Double's, those that this one tells, in order.
		{withError(2, 1000, 50), number(2, 999, 55, 1), api.ErrCorrupt},
		{withError(2, 1000, 50), number(2, 999, 3, 44*56), api.ErrCorrupt},
		{withError(2, 1000, 50), withError(2, 1100, 51), 50},
		{withError(2, 1000, 50), number(2, 999, doubleAt, 65535), 50},
		{withError(2, 1100, 50), number(2, 999, singleAt, 65535), api.ErrCorrupt},
		{withError(2, 1100, 50), number(2, 1000, 0, 65535), 50},
		{withError(2, 1001, 50), withError(2, 1100, 51), 51},
		{withError(2, 1001, 50), withError(2, 1003, 51), 50},
		{withError(2, 1001, 50), number(2, 1100, 2, 65535), 50},
		{withError(2, 1003, 50), number(2, 1100, 0, 65535), api.ErrCorrupt},
		{withError(2, 1003, 50), number(2, 1001, 0, 65535), 50},
		// Pointers to data behind the node's last block.
		{withError(2, 1000, 50), number(2, 999, ownAt, 65535), 50},
		{withError(2, 1003, 50), number(2, 999, ownAt, 65535), 50},
		{withError(2, 1003, 50), number(2, 999, 3, 60*56), 50},
		{withError(40, 1000, 50), number(40, 999, ownAt, 65535), 50},
		{withError(40, 999, 50), number(2, 999, ownAt, 65535), api.ErrCorrupt},
		{withError(40, 999, 50), number(2, 999, 3, 72*56), api.ErrCorrupt},
		// The list, and pointers' blocks without a pointer, behind all.
		{withError(40, 1000, 50), number(1, 999, 0, 1+256*2), 50},
		{withError(40, 1000, 50), number(0, 1, 0, 0), 50},
		{withError(40, 999, 50), empty(2, 1000), 50},
		{withError(40, 999, 50), empty(2, 1001), 50},
		{withError(40, 999, 50), empty(2, 1100), 50},
		{withError(40, 999, 50), empty(0, 1), 50},
		{withError(2, 1002, 50), empty(2, 1100), api.ErrCorrupt},
	} {
		x := fresh(t)
		c.one(x)
		c.other(x)
		if list, read, err := Load(x.g, x, x.root); err != c.want || len(list) > 0 || len(read) > 0 {
			t.Errorf("%d: %v, %v, %v, not %v", i, list, read, err, c.want)
		}
		x.loadsAgainBut(c.want)
	}
}
