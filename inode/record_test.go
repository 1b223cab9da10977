package inode

import (
	"bytes"
	"math"
	"slices"
	"strconv"
	"testing"

	"moraine/api"
)

// rights are records that are right: each kind, each way in which blocks are told, least and greatest numbers.
func rights() []api.Record {
	full := filled(api.KFile, 65535, 46368)
	for at := range 18 {
		full = with(full, at, 65535)
	}
	return []api.Record{
		bare(0), bare(1), bare(46368), {Kind: api.KDir, Links: 2}, {Kind: api.KDir, Links: 65535, Size: 46368}, full,
		filled(api.KFile, 1, 1), filled(api.KDir, 2, 56), filled(api.KFile, 200, 57), filled(api.KFile, 0x0201, 895), filled(api.KDir, 3, 896),
		filled(api.KFile, 1, 897), filled(api.KDir, 9, 2464), filled(api.KFile, 256, 2465), filled(api.KFile, 255, 0x4321), filled(api.KDir, 57, 46368),
		with(bare(46368), 17, 1), with(bare(2465), 16, 256), with(bare(897), 0, 9), with(bare(1), 0, 65535),
	}
}

// wrongs are records that aren't right, though their numbers have their widths.
func wrongs() []api.Record {
	return []api.Record{
		{}, {Kind: api.KFile}, {Kind: api.KDir}, {Links: 1}, {Kind: 3, Links: 1}, {Kind: 255, Links: 1}, {Kind: api.KFile, Links: 1, Size: 46369},
		{Kind: api.KFile, Links: 1, Size: 65536}, {Kind: api.KDir, Links: 2, Size: 1<<32 - 1}, with(bare(0), 0, 1), with(bare(0), 17, 1), with(bare(56), 1, 1),
		with(bare(896), 16, 1), with(bare(2464), 17, 1), with(filled(api.KDir, 2, 896), 17, 5), with(filled(api.KFile, 0, 896), 3, 5), with(filled(0, 7, 2465), 17, 8),
	}
}

// The bytes of records by hand.
func TestRecordsByHand(t *testing.T) {
	want := make([]byte, 56)
	copy(want, []byte{1, 1})
	isRecord(t, api.Record{Kind: 1, Links: 1}, want)

	want = make([]byte, 56)
	copy(want, []byte{2, 2, 0, 57, 0, 0, 0, 5, 0, 6, 1})
	isRecord(t, api.Record{Kind: 2, Links: 2, Size: 57, Direct: [16]int{5, 262}}, want)

	want = make([]byte, 56)
	copy(want, []byte{
		1, 3, 2, 0x20, 0xb5, 0, 0, 1, 2, 3, 4, 5, 6, 7, 8, 9, 10, 11, 12, 13, 14, 15, 16, 17, 18, 19, 20,
		21, 22, 23, 24, 25, 26, 27, 28, 29, 30, 31, 32, 255, 255, 0, 1,
	})
	r := api.Record{Kind: 1, Links: 515, Size: 46368, Single: 65535, Double: 256}
	for i := range r.Direct {
		r.Direct[i] = 2*i + 1 + 256*(2*i+2)
	}
	isRecord(t, r, want)
}

func TestRights(t *testing.T) {
	for _, r := range rights() {
		if !plainRight(r) {
			t.Error("it isn't right:", r)
		}
		isRecord(t, r, plainPut(r))
	}
	for _, r := range wrongs() {
		if plainRight(r) || !hasWidths(r) {
			t.Error("it is right, or has no widths:", r)
		}
		noRecord(t, r)
	}
}

// Each Kind around the right ones, and such as end with these.
func TestEachKind(t *testing.T) {
	for kind := -300; kind <= 600; kind++ {
		for _, r := range []api.Record{bare(0), filled(0, 65535, 46368), filled(0, 2, 900)} {
			r.Kind = kind
			if kind == 1 || kind == 2 {
				isRecord(t, r, plainPut(r))
			} else {
				noRecord(t, r)
			}
		}
	}
	for _, right := range []int{api.KFile, api.KDir} {
		for _, kind := range append(strange(right), right+256, right+65536, right-256, right-65536) {
			noRecord(t, api.Record{Kind: kind, Links: 1})
			noRecord(t, api.Record{Kind: kind, Links: 2, Size: 46368})
		}
	}
	noRecord(t, api.Record{Kind: api.KFile - 1, Links: 1})
	noRecord(t, api.Record{Kind: api.KDir + 1, Links: 1})
}

// Each number of links that two bytes hold, of both kinds, and some on each side.
func TestEachLinks(t *testing.T) {
	for links := 1; links <= 65535; links++ {
		r := api.Record{Kind: 1 + links%2, Links: links}
		isRecord(t, r, plainPut(r))
	}
	for _, kind := range []int{api.KFile, api.KDir} {
		for _, links := range []int{1, 2, 199, 200, 201, 255, 256, 257, 32767, 32768, 65534, 65535} {
			r := filled(kind, links, 46368)
			isRecord(t, r, plainPut(r))
		}
		for _, links := range append(strange(1), 0, -3, 65536, 65537, 65538, 65536+65535, 1<<17, 1<<31) {
			noRecord(t, filled(kind, links, 46368))
			noRecord(t, filled(kind, links, 0))
			noRecord(t, filled(kind, links, 57))
		}
	}
}

// Each size that there may be, without a pointer and with all that it may have, and some on each side.
func TestEachSize(t *testing.T) {
	for size := -100; size <= 46368+300; size++ {
		holds(t, bare(size))
		holds(t, filled(api.KDir, 2, size))
	}
	for _, n := range []int{0, 1, 56, 897, 46367, 46368} {
		for _, size := range append(strange(n), n+65536, n+1<<24, n+1<<31) {
			r := bare(size)
			noRecord(t, r)
			r.Kind = api.KDir
			noRecord(t, r)
			noRecord(t, with(r, 0, 1))
		}
	}
	for _, size := range []int{0, 46368} {
		isRecord(t, bare(size), plainPut(bare(size)))
	}
	for _, size := range []int{-1, 46369, 46424, 65535, 65536, 1 << 24, 1<<32 - 1, 1 << 32} {
		noRecord(t, bare(size))
	}
}

// Each pointer at and beside its bounds, of a record that may have it.
func TestEachPointerAtTheBounds(t *testing.T) {
	for _, kind := range []int{api.KFile, api.KDir} {
		for at := range 18 {
			for _, r := range []api.Record{{Kind: kind, Links: 1, Size: 46368}, filled(kind, 7, 46368)} {
				for _, p := range []int{0, 1, 2, 127, 128, 255, 256, 257, 1000, 32767, 32768, 65534, 65535} {
					isRecord(t, with(r, at, p), plainPut(with(r, at, p)))
				}
				for _, p := range append(append(strange(0), strange(5)...), 65536, 65537, 65541, 1<<17, 1<<24, 1<<31) {
					noRecord(t, with(r, at, p))
				}
			}
		}
	}
}

// Each byte that a pointer has, at each pointer's place.
func TestEachBytesOfPointers(t *testing.T) {
	for at := range 18 {
		for x := range 256 {
			for _, p := range []int{x, 256 * x, 257 * x} {
				r := with(bare(46368), at, p)
				isRecord(t, r, plainPut(r))
			}
		}
	}
}

// A pointer that is wrong is wrong also where it may not be other than 0.
func TestWrongPointersOfShortFiles(t *testing.T) {
	for at := range 18 {
		for _, size := range []int{0, 1, 56, 896, 897, 2464, 2465} {
			for _, p := range append(strange(0), 65536, 65537) {
				noRecord(t, with(bare(size), at, p))
			}
		}
	}
}

// Each pointer at each number of blocks, the last one with one byte, and full: it may be other than 0 just if it tells one of them.
func TestPointersByBlocks(t *testing.T) {
	first := append(from(0, 16), 16, 44)
	for blocks := range 829 {
		sizes := []int{56 * blocks}
		if blocks > 0 {
			sizes = append(sizes, 56*blocks-55)
		}
		for _, size := range sizes {
			for at := range 18 {
				r := with(bare(size), at, 1+at*99)
				if first[at] < blocks {
					isRecord(t, r, plainPut(r))
				} else {
					noRecord(t, r)
				}
			}
		}
	}
}

// By hand: each own pointer at the last block, and one behind it; Single at 16 and 17 blocks, Double at 44 and 45.
func TestPointersAtTheLastBlock(t *testing.T) {
	for at := range 16 {
		r := with(bare(56*at), at, 7)
		noRecord(t, r)
		r.Size++
		isRecord(t, r, plainPut(r))
	}
	for _, c := range []struct {
		right bool
		r     api.Record
	}{
		{false, api.Record{Kind: 1, Links: 1, Size: 16 * 56, Single: 7}}, {true, api.Record{Kind: 1, Links: 1, Size: 16*56 + 1, Single: 7}},
		{true, api.Record{Kind: 1, Links: 1, Size: 17 * 56, Single: 7}}, {false, api.Record{Kind: 1, Links: 1, Size: 17 * 56, Double: 7}},
		{false, api.Record{Kind: 1, Links: 1, Size: 44 * 56, Double: 7}}, {true, api.Record{Kind: 1, Links: 1, Size: 44*56 + 1, Double: 7}},
		{true, api.Record{Kind: 1, Links: 1, Size: 45 * 56, Double: 7}}, {true, api.Record{Kind: 1, Links: 1, Size: 44 * 56, Single: 7}},
		{false, api.Record{Kind: 1, Links: 1, Single: 7}}, {false, api.Record{Kind: 1, Links: 1, Double: 7}},
	} {
		if plainRight(c.r) != c.right {
			t.Error("the plainest means:", c.r)
		}
		holds(t, c.r)
	}
}

// Which pointers may be other than 0 goes by which of the paths of its blocks a size has.
func TestPointersGoByPaths(t *testing.T) {
	for _, blocks := range []int{0, 1, 2, 15, 16, 17, 43, 44, 45, 71, 72, 73, 827, 828} {
		var may row
		for k := range blocks {
			by, own, _, _ := Path(k)
			may[[]int{own, 16, 17}[by]] = 1
		}
		for at := range 18 {
			if _, ok := Put(with(bare(56*blocks), at, 1)); ok != (may[at] == 1) {
				t.Errorf("%d blocks: pointer %d: %v", blocks, at, ok)
			}
		}
	}
}

func TestGetOfOtherLengths(t *testing.T) {
	notGot(t, nil)
	notGot(t, []byte{})
	for _, r := range rights() {
		long := append(plainPut(r), make([]byte, 200)...)
		for n := range len(long) {
			if n != 56 {
				notGot(t, long[:n])
			}
		}
		for _, x := range []byte{1, 255} {
			notGot(t, append(plainPut(r), x))
		}
		notGot(t, append(plainPut(r), plainPut(r)...))
		notGot(t, append([]byte{0}, plainPut(r)...))
		notGot(t, plainPut(r)[1:])
		notGot(t, plainPut(r)[:43])
	}
	for _, n := range []int{55, 56, 57, 64, 65536} {
		notGot(t, make([]byte, n))
		notGot(t, bytes.Repeat([]byte{255}, n))
		notGot(t, bytes.Repeat([]byte{1}, n))
	}
}

// Behind the pointers there are noughts, and nothing else.
func TestBytesBehindThePointers(t *testing.T) {
	for _, r := range rights() {
		for at := 43; at < 56; at++ {
			for x := 1; x < 256; x++ {
				b := plainPut(r)
				b[at] = byte(x)
				notGot(t, b)
			}
		}
	}
}

// Each byte of a record turned to each other one: what is got is put again, and what isn't is no right record.
func TestEachByteTurned(t *testing.T) {
	for _, r := range slices.Concat(rights(), wrongs()) {
		for at := range 43 {
			for x := range 256 {
				b := plainPut(r)
				b[at] = byte(x)
				holds(t, plainGet(b))
			}
		}
	}
}

// Each two bytes of the first seven turned: Kind, Links and Size are held against their bounds together.
func TestEachTwoBytesTurned(t *testing.T) {
	few := []byte{0, 1, 2, 3, 0x20, 0x21, 0xb4, 0xb5, 0xb6, 128, 255}
	for _, r := range []api.Record{bare(0), bare(46368), filled(api.KDir, 2, 0xb4ff)} {
		for i := range 7 {
			for j := range i {
				for _, x := range few {
					for _, y := range few {
						b := plainPut(r)
						b[i], b[j] = x, y
						holds(t, plainGet(b))
					}
				}
			}
		}
	}
}

// Each field alone makes other bytes of a record, and each byte tells.
func TestFieldsStandApart(t *testing.T) {
	base := filled(api.KFile, 0x0101, 46368)
	seen := map[string]string{}
	add := func(what string, r api.Record) {
		b, ok := Put(r)
		if was, has := seen[string(b)]; has || !ok {
			t.Error(what, was, ok)
		}
		seen[string(b)] = what
	}
	add("base", base)
	dir := base
	dir.Kind = api.KDir
	add("kind", dir)
	for _, links := range []int{1, 0x0102, 0x0201, 0xff01} {
		r := base
		r.Links = links
		add("links "+strconv.Itoa(links), r)
	}
	for _, size := range []int{46367, 46368 - 256, 46313, 2465} {
		r := base
		r.Size = size
		add("size "+strconv.Itoa(size), r)
	}
	for at := range 18 {
		for _, p := range []int{0, 2, 0x0202, 65535} {
			add("pointer "+strconv.Itoa(at), with(base, at, p))
		}
	}
}

// All numbers wrong together, and each field the least and the greatest number there is.
func TestAllWrong(t *testing.T) {
	for _, n := range []int{0, -1, 1 << 16, 1 << 32, math.MinInt, math.MaxInt} {
		r := api.Record{Kind: n, Links: n, Size: n, Single: n, Double: n}
		for i := range r.Direct {
			r.Direct[i] = n
		}
		noRecord(t, r)
	}
	for _, n := range []int{math.MinInt, math.MaxInt, -1} {
		base := filled(api.KFile, 1, 46368)
		for _, turn := range []func(r *api.Record){
			func(r *api.Record) { r.Kind = n }, func(r *api.Record) { r.Links = n }, func(r *api.Record) { r.Size = n },
			func(r *api.Record) { r.Direct[0] = n }, func(r *api.Record) { r.Direct[15] = n }, func(r *api.Record) { r.Single = n }, func(r *api.Record) { r.Double = n },
		} {
			r := base
			turn(&r)
			noRecord(t, r)
		}
	}
}
