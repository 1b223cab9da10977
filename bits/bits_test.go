package bits

import (
	"bytes"
	"math"
	"testing"
)

// hidden is what lies behind the length of the arguments, in their memory.
const hidden = 0xEE

// within: the bytes as a slice with room behind it, in memory that all is told of by the second result.
func within(b []byte) ([]byte, []byte) {
	all := bytes.Repeat([]byte{hidden}, len(b)+9)
	copy(all, b)
	return all[:len(b)], all
}

// spoil turns all bytes of a list, and of its spare room.
func spoil(b []byte) {
	b = b[:cap(b)]
	for i := range b {
		b[i] ^= 0xFF
	}
}

// numbers are numbers and their bytes: the least and the greatest of each width, and some between.
func numbers() []struct {
	width, n int
	bytes    []byte
} {
	return []struct {
		width, n int
		bytes    []byte
	}{
		{1, 0, []byte{0}},
		{1, 7, []byte{7}},
		{1, 255, []byte{255}},
		{2, 0, []byte{0, 0}},
		{2, 258, []byte{2, 1}},
		{2, 255, []byte{255, 0}},
		{2, 65535, []byte{255, 255}},
		{3, 0, []byte{0, 0, 0}},
		{3, 65536, []byte{0, 0, 1}},
		{3, 0x030201, []byte{1, 2, 3}},
		{3, 1<<24 - 1, []byte{255, 255, 255}},
		{4, 0, []byte{0, 0, 0, 0}},
		{4, 0x04030201, []byte{1, 2, 3, 4}},
		{4, 1 << 31, []byte{0, 0, 0, 128}},
		{4, 1<<32 - 1, []byte{255, 255, 255, 255}},
	}
}

// noWidths are numbers that are no width.
func noWidths() []int {
	return []int{0, 5, 8, -1, -4, 1 << 32, 1<<32 + 1, 1 << 61, 1<<61 + 1, math.MaxInt, math.MinInt, math.MinInt + 1}
}

func TestPutBytesLowestFirst(t *testing.T) {
	for _, c := range numbers() {
		if got := Put(c.width, c.n); !bytes.Equal(got, c.bytes) {
			t.Errorf("Put(%d, %d): %v, not %v", c.width, c.n, got, c.bytes)
		}
	}
}

func TestPutNoNumber(t *testing.T) {
	for width := 1; width <= 4; width++ {
		least := 1 << (8 * width)
		for _, n := range []int{least, least + 1, 2 * least, -1, -least, -least + 1, math.MaxInt, math.MinInt} {
			if got := Put(width, n); len(got) != 0 {
				t.Errorf("Put(%d, %d): %v, not none", width, n, got)
			}
		}
	}
}

func TestPutNoWidth(t *testing.T) {
	for _, width := range noWidths() {
		for _, n := range []int{0, 1, 255, -1, math.MaxInt, math.MinInt} {
			if got := Put(width, n); len(got) != 0 {
				t.Errorf("Put(%d, %d): %v, not none", width, n, got)
			}
		}
	}
}

func TestGetAtEachPlace(t *testing.T) {
	for _, c := range numbers() {
		for ahead := range 4 {
			for behind := range 3 {
				b := bytes.Repeat([]byte{0xAA}, ahead)
				b = append(b, c.bytes...)
				b = append(b, bytes.Repeat([]byte{0xBB}, behind)...)
				if n, ok := Get(b, ahead, c.width); n != c.n || !ok {
					t.Errorf("Get(%v, %d, %d): %d, %v", b, ahead, c.width, n, ok)
				}
			}
		}
	}
}

func TestGetTellsWhatPutMade(t *testing.T) {
	for width := 1; width <= 4; width++ {
		for bit := range 8 * width {
			n := 1 << bit
			if got, ok := Get(Put(width, n), 0, width); got != n || !ok {
				t.Errorf("width %d, %d: %d, %v", width, n, got, ok)
			}
		}
	}
}

// Behind the length there are bytes in the list's memory: they aren't the list's.
func TestGetLastPlace(t *testing.T) {
	for length := range 7 {
		b, _ := within(bytes.Repeat([]byte{1}, length))
		for width := 1; width <= 4; width++ {
			for at := -5; at <= length+5; at++ {
				n, ok := Get(b, at, width)
				want := at >= 0 && at+width <= length
				if ok != want || ok != (n != 0) {
					t.Errorf("of %d bytes, at %d, width %d: %d, %v", length, at, width, n, ok)
				}
			}
		}
	}
}

func TestGetNoPlace(t *testing.T) {
	b := []byte{1, 2, 3, 4, 5, 6}
	far := []int{-1, -4, math.MinInt, math.MinInt + 3, math.MaxInt, math.MaxInt - 1, math.MaxInt - 3, 1 << 32, -1 << 32}
	for _, at := range far {
		for width := 1; width <= 4; width++ {
			if n, ok := Get(b, at, width); n != 0 || ok {
				t.Errorf("at %d, width %d: %d, %v", at, width, n, ok)
			}
		}
	}
}

func TestGetNoWidth(t *testing.T) {
	b := []byte{1, 2, 3, 4, 5, 6, 7, 8, 9}
	for _, width := range noWidths() {
		for _, at := range []int{0, 1, 9, -1, math.MaxInt, math.MinInt} {
			if n, ok := Get(b, at, width); n != 0 || ok {
				t.Errorf("at %d, width %d: %d, %v", at, width, n, ok)
			}
		}
	}
}

func TestGetOfNothing(t *testing.T) {
	for _, b := range [][]byte{nil, {}} {
		for width := -1; width <= 5; width++ {
			if n, ok := Get(b, 0, width); n != 0 || ok {
				t.Errorf("width %d: %d, %v", width, n, ok)
			}
		}
	}
}

func TestNought(t *testing.T) {
	for _, b := range [][]byte{nil, {}, {0}, {0, 0, 0}, make([]byte, 1000)} {
		if !Nought(b) {
			t.Errorf("%d noughts: false", len(b))
		}
	}
	for length := 1; length <= 70; length++ {
		for at := range length {
			for _, x := range []byte{1, 128, 255} {
				b := make([]byte, length)
				b[at] = x
				if Nought(b) {
					t.Errorf("%d at %d of %d bytes: true", x, at, length)
				}
			}
		}
	}
}

func TestNoughtLooksAtTheListAlone(t *testing.T) {
	b, _ := within([]byte{0, 0})
	if !Nought(b) {
		t.Error("what lies behind the list was looked at")
	}
}

func TestXor(t *testing.T) {
	for i, c := range []struct{ a, b, want []byte }{
		{nil, nil, nil},
		{nil, []byte{}, nil},
		{[]byte{}, []byte{}, nil},
		{[]byte{1, 2}, []byte{3}, []byte{2, 2}},
		{[]byte{3}, []byte{1, 2}, []byte{2, 2}},
		{nil, []byte{1, 0, 255}, []byte{1, 0, 255}},
		{[]byte{1, 0, 255}, []byte{}, []byte{1, 0, 255}},
		{[]byte{1, 2, 0}, []byte{1, 2, 0}, []byte{0, 0, 0}},
		{[]byte{0x0F, 0xF0, 0xAA}, []byte{0xFF, 0xFF, 0x55}, []byte{0xF0, 0x0F, 0xFF}},
		{[]byte{5, 0, 0, 0}, []byte{0, 6}, []byte{5, 6, 0, 0}},
	} {
		if got := Xor(c.a, c.b); !bytes.Equal(got, c.want) {
			t.Errorf("%d: %v, not %v", i, got, c.want)
		}
	}
}

func TestXorOfEachTwoBytes(t *testing.T) {
	for x := range 256 {
		for y := range 256 {
			got := Xor([]byte{byte(x)}, []byte{byte(y)})
			if len(got) != 1 || got[0] != byte(x)^byte(y) {
				t.Fatalf("%d and %d: %v", x, y, got)
			}
		}
	}
}

// What the shorter list lacks counts as 0, whatever lies behind it in its memory.
func TestXorLooksAtTheListsAlone(t *testing.T) {
	short, _ := within([]byte{1})
	long := []byte{2, 3, 4}
	want := []byte{3, 3, 4}
	if got := Xor(short, long); !bytes.Equal(got, want) {
		t.Error(got)
	}
	if got := Xor(long, short); !bytes.Equal(got, want) {
		t.Error(got)
	}
}

func TestPad(t *testing.T) {
	most := bytes.Repeat([]byte{7}, 65536)
	for i, c := range []struct {
		b    []byte
		n    int
		want []byte
	}{
		{nil, 0, nil},
		{[]byte{}, 0, nil},
		{nil, 3, []byte{0, 0, 0}},
		{[]byte{5}, 1, []byte{5}},
		{[]byte{5}, 3, []byte{5, 0, 0}},
		{[]byte{5, 6, 0}, 5, []byte{5, 6, 0, 0, 0}},
		{nil, 65536, make([]byte, 65536)},
		{most, 65536, most},
		{most[1:], 65536, append(bytes.Clone(most[1:]), 0)},
	} {
		if got, ok := Pad(c.b, c.n); !ok || !bytes.Equal(got, c.want) {
			t.Errorf("%d: %d bytes, %v", i, len(got), ok)
		}
	}
}

func TestPadNone(t *testing.T) {
	for i, c := range []struct {
		length, n int
	}{
		{1, 0}, {3, 2}, {65536, 65535}, {65537, 65536},
		{0, 65537}, {1, 65537}, {65537, 65537}, {65538, 65537},
		{0, -1}, {5, -1}, {0, math.MinInt}, {0, math.MaxInt}, {5, math.MaxInt}, {0, 1 << 32}, {0, 1<<32 + 5},
	} {
		if got, ok := Pad(make([]byte, c.length), c.n); ok || len(got) != 0 {
			t.Errorf("%d: %d bytes, %v", i, len(got), ok)
		}
	}
	if got, ok := Pad(nil, -1); ok || len(got) != 0 {
		t.Error("nil:", got, ok)
	}
}

func TestPadLooksAtTheListAlone(t *testing.T) {
	b, _ := within([]byte{5})
	if got, ok := Pad(b, 4); !ok || !bytes.Equal(got, []byte{5, 0, 0, 0}) {
		t.Error(got, ok)
	}
}

// isolated holds a call of two lists against P1.3: its answer, spare room too, shares no memory with them.
func isolated(t *testing.T, what string, call func(a, b []byte) []byte) {
	t.Helper()
	for _, c := range []struct{ a, b []byte }{
		{nil, nil}, {[]byte{1, 2, 3}, nil}, {nil, []byte{1, 2, 3}},
		{[]byte{1, 2, 3}, []byte{4, 5, 6}}, {[]byte{1, 2, 3}, []byte{4}}, {[]byte{4}, []byte{1, 2, 3}},
		{[]byte{1, 2, 3}, []byte{0, 0, 0}}, {[]byte{0, 0, 0}, []byte{1, 2, 3}},
	} {
		a, allA := within(c.a)
		b, allB := within(c.b)
		wasA, wasB := bytes.Clone(allA), bytes.Clone(allB)
		got := call(a, b)
		other := call(a, b)
		was := bytes.Clone(got)
		if !bytes.Equal(allA, wasA) || !bytes.Equal(allB, wasB) {
			t.Errorf("%s of %v, %v: what was handed in was changed", what, c.a, c.b)
		}
		if !bytes.Equal(other, got) {
			t.Errorf("%s of %v, %v: %v, then %v", what, c.a, c.b, got, other)
		}
		spoil(other)
		if !bytes.Equal(allA, wasA) || !bytes.Equal(allB, wasB) || !bytes.Equal(got, was) {
			t.Errorf("%s of %v, %v: what is answered is no new memory", what, c.a, c.b)
		}
		spoil(allA)
		spoil(allB)
		if !bytes.Equal(got, was) {
			t.Errorf("%s of %v, %v: what was handed in was kept", what, c.a, c.b)
		}
	}
}

func TestArgumentsAndAnswersAreApart(t *testing.T) {
	isolated(t, "Xor", Xor)
	for n := range 12 {
		isolated(t, "Pad", func(a, _ []byte) []byte {
			got, _ := Pad(a, n)
			return got
		})
	}
	isolated(t, "Get", func(a, _ []byte) []byte {
		n, _ := Get(a, 1, 2)
		return Put(4, n)
	})
	isolated(t, "Nought", func(a, _ []byte) []byte {
		if Nought(a) {
			return Put(1, 1)
		}
		return Put(1, 0)
	})
}

// One list handed in twice, or pieces of one, are as good as any two.
func TestXorOfOneMemory(t *testing.T) {
	all := []byte{1, 2, 4, 8}
	if got := Xor(all, all); !bytes.Equal(got, []byte{0, 0, 0, 0}) {
		t.Error(got)
	}
	if got := Xor(all[:3], all[1:]); !bytes.Equal(got, []byte{3, 6, 12}) {
		t.Error(got)
	}
	if !bytes.Equal(all, []byte{1, 2, 4, 8}) {
		t.Error("what was handed in was changed:", all)
	}
}

func TestPutAnswersNewMemory(t *testing.T) {
	for _, c := range numbers() {
		one, other := Put(c.width, c.n), Put(c.width, c.n)
		spoil(one)
		if !bytes.Equal(other, c.bytes) || !bytes.Equal(Put(c.width, c.n), c.bytes) {
			t.Errorf("Put(%d, %d): two answers share memory", c.width, c.n)
		}
	}
}
