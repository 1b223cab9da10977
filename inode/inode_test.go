package inode

import (
	"bytes"
	"math"
	"slices"
	"testing"

	"moraine/api"
)

// from: the numbers from one on, without another one.
func from(first, end int) []int {
	var out []int
	for n := first; n < end; n++ {
		out = append(out, n)
	}
	return out
}

// strange are numbers that no width of ours holds, though those that they end with in fewer bytes are n; and the ends.
func strange(n int) []int {
	return []int{
		n + 1<<32, n + 1<<33, n + 1<<40, n + 1<<48, n + 1<<62, n - 1<<32, n - 1<<40, n - 1<<62, n + math.MinInt,
		-1, -2, -255, -256, -65535, -65536, -1 << 31, math.MinInt, math.MinInt + 1, math.MaxInt - 1, math.MaxInt,
	}
}

// plainBlocks: how many blocks a size has, by the plainest means: one more, as long as bytes are left.
func plainBlocks(size int) int {
	n := 0
	for left := size; left > 0 && size <= 46368; left -= 56 {
		n++
	}
	return n
}

// row are a record's pointers in order: the own ones, Single, Double.
type row [18]int

// rowOf: a record's.
func rowOf(r api.Record) row {
	var out row
	for i, p := range r.Direct {
		out[i] = p
	}
	out[16], out[17] = r.Single, r.Double
	return out
}

// with: the record with this pointer, by its number in the row.
func with(r api.Record, at, pointer int) api.Record {
	switch at {
	case 16:
		r.Single = pointer
	case 17:
		r.Double = pointer
	default:
		r.Direct[at] = pointer
	}
	return r
}

// bare: a record of a file without pointers.
func bare(size int) api.Record {
	return api.Record{Kind: api.KFile, Links: 1, Size: size}
}

// filled: a record with all pointers that its size lets it have, none like another one.
func filled(kind, links, size int) api.Record {
	r := api.Record{Kind: kind, Links: links, Size: size}
	for at, tells := range plainTells(size) {
		if tells {
			r = with(r, at, 257*at+3)
		}
	}
	return r
}

// plainTells: which pointers of a row may be other than 0, by the plainest means: each block that there is has its own one.
func plainTells(size int) [18]bool {
	var out [18]bool
	for k := range plainBlocks(size) {
		switch {
		case k <= 15:
			out[k] = true
		case k <= 43:
			out[16] = true
		default:
			out[17] = true
		}
	}
	return out
}

// plainRight: is a record right, by the plainest means?
func plainRight(r api.Record) bool {
	if r.Kind < 1 || r.Kind > 2 || r.Links < 1 || r.Links > 65535 || r.Size < 0 || r.Size > 46368 {
		return false
	}
	tells := plainTells(r.Size)
	for at, p := range rowOf(r) {
		if p < 0 || p > 65535 || p > 0 && !tells[at] {
			return false
		}
	}
	return true
}

// low: a number's lowest bytes, whatever it is.
func low(n, width int) []byte {
	var out []byte
	for range width {
		out = append(out, byte(n))
		n >>= 8
	}
	return out
}

// plainPut: a record's bytes, by the plainest means, be it right or not: of each number the lowest ones.
func plainPut(r api.Record) []byte {
	b := slices.Concat(low(r.Kind, 1), low(r.Links, 2), low(r.Size, 4))
	for _, p := range rowOf(r) {
		b = append(b, low(p, 2)...)
	}
	return append(b, make([]byte, 13)...)
}

// plainGet: what stands in 56 bytes, by the plainest means, be it right or not.
func plainGet(b []byte) api.Record {
	two := func(at int) int { return int(b[at]) + 256*int(b[at+1]) }
	r := api.Record{Kind: int(b[0]), Links: two(1), Size: two(3) + 65536*two(5)}
	for at := range 18 {
		r = with(r, at, two(7+2*at))
	}
	return r
}

// hasWidths: do a record's bytes tell all of its numbers?
func hasWidths(r api.Record) bool {
	return plainGet(plainPut(r)) == r
}

// plainPutPointers: a pointers' block, by the plainest means, whatever the pointers are: of each the lowest bytes.
func plainPutPointers(list []int) []byte {
	var b []byte
	for _, p := range list {
		b = append(b, low(p, 2)...)
	}
	for len(b) < 56 {
		b = append(b, 0)
	}
	return b
}

// path is what Path answers.
type path struct {
	by, first, second int
	ok                bool
}

// plainPaths: what Path answers of each block, by the plainest means: one path behind the other, in the blocks' order.
func plainPaths() []path {
	var out []path
	for i := range 16 {
		out = append(out, path{0, i, 0, true})
	}
	for i := range 28 {
		out = append(out, path{1, i, 0, true})
	}
	for i := range 28 {
		for j := range 28 {
			out = append(out, path{2, i, j, true})
		}
	}
	return out
}

// isBlocks holds Blocks' answer against how many there are.
func isBlocks(t *testing.T, want, size int) {
	t.Helper()
	if got := Blocks(size); got != want {
		t.Errorf("%d bytes: %d blocks, not %d", size, got, want)
	}
}

// isRecord holds both calls against a record that is right, and its bytes.
func isRecord(t *testing.T, r api.Record, b []byte) {
	t.Helper()
	if got, ok := Put(r); !bytes.Equal(got, b) || !ok {
		t.Errorf("the bytes of %v: %v, %v, not %v", r, got, ok, b)
	}
	if got, ok := Get(b); got != r || !ok {
		t.Errorf("the record of %v: %v, %v, not %v", b, got, ok, r)
	}
}

// noRecord holds both calls against a record that isn't right: it has no bytes, and those that would be its own tell none.
func noRecord(t *testing.T, r api.Record) {
	t.Helper()
	if b, ok := Put(r); len(b) != 0 || ok {
		t.Errorf("the bytes of %v: %v, %v", r, b, ok)
	}
	if hasWidths(r) {
		notGot(t, plainPut(r))
	}
}

// notGot holds Get's answer against that where there is none.
func notGot(t *testing.T, b []byte) {
	t.Helper()
	if got, ok := Get(b); got != (api.Record{}) || ok {
		t.Errorf("the record of %v: %v, %v", b, got, ok)
	}
}

// holds both calls against a record, right or not, by the plainest means.
func holds(t *testing.T, r api.Record) {
	t.Helper()
	if plainRight(r) {
		isRecord(t, r, plainPut(r))
	} else {
		noRecord(t, r)
	}
}

// arePointers holds both calls against pointers, and their bytes.
func arePointers(t *testing.T, list []int, b []byte) {
	t.Helper()
	if got, ok := PutPointers(list); !bytes.Equal(got, b) || !ok {
		t.Errorf("the bytes of %v: %v, %v, not %v", list, got, ok, b)
	}
	all := make([]int, 28)
	copy(all, list)
	if got, ok := GetPointers(b); !slices.Equal(got, all) || !ok {
		t.Errorf("the pointers of %v: %v, %v, not %v", b, got, ok, all)
	}
}

// noPointers holds PutPointers' answer against that where there is none.
func noPointers(t *testing.T, list []int) {
	t.Helper()
	if b, ok := PutPointers(list); len(b) != 0 || ok {
		t.Errorf("the bytes of %v: %v, %v", list, b, ok)
	}
}

// noPointersGot holds GetPointers' answer against that where there is none.
func noPointersGot(t *testing.T, b []byte) {
	t.Helper()
	if list, ok := GetPointers(b); len(list) != 0 || ok {
		t.Errorf("the pointers of %v: %v, %v", b, list, ok)
	}
}

// pathOf: what Path answers.
func pathOf(block int) path {
	by, first, second, ok := Path(block)
	return path{by, first, second, ok}
}

// isPath holds Path's answer against a path.
func isPath(t *testing.T, want path, block int) {
	t.Helper()
	if got := pathOf(block); got != want {
		t.Errorf("block %d: %v, not %v", block, got, want)
	}
}

func TestExamples(t *testing.T) {
	isPath(t, path{1, 0, 0, true}, 16)
	isPath(t, path{2, 1, 0, true}, 72)
}

// The numbers of layer 14 are the limits of the document.
func TestLimits(t *testing.T) {
	if api.Direct != 16 || api.Pointers != 28 || api.MaxBlocks != 828 || api.MaxSize != 46368 || api.Payload != 56 {
		t.Error(api.Direct, api.Pointers, api.MaxBlocks, api.MaxSize, api.Payload)
	}
	if api.KFile != 1 || api.KDir != 2 {
		t.Error(api.KFile, api.KDir)
	}
}

// A row of calls by hand: none hangs on those ahead of it.
func TestCallsOneBehindTheOther(t *testing.T) {
	r := filled(api.KDir, 3, 46368)
	for range 3 {
		isBlocks(t, 828, 46368)
		isBlocks(t, 0, 46369)
		isBlocks(t, 1, 1)
		isRecord(t, r, plainPut(r))
		noRecord(t, api.Record{})
		isRecord(t, bare(0), plainPut(bare(0)))
		notGot(t, nil)
		arePointers(t, from(1, 29), plainPutPointers(from(1, 29)))
		arePointers(t, nil, make([]byte, 56))
		noPointers(t, []int{1, -1})
		noPointersGot(t, plainPut(r)[:55])
		isPath(t, path{2, 27, 27, true}, 827)
		isPath(t, path{}, 828)
		isPath(t, path{0, 0, 0, true}, 0)
	}
}

// Many answers at the same time: what each call keeps to itself isn't another one's.
func TestAtTheSameTime(t *testing.T) {
	done := make(chan bool)
	for worker := range 8 {
		go func() {
			r := filled(api.KFile, worker+1, 5000*worker)
			list := from(worker, worker+3*worker)
			ok := true
			for range 200 {
				b, put := Put(r)
				got, was := Get(b)
				bytesOfList, putList := PutPointers(list)
				all, wasList := GetPointers(bytesOfList)
				ok = ok && put && was && putList && wasList && got == r && slices.Equal(all[:len(list)], list)
				ok = ok && pathOf(100*worker) == plainPaths()[100*worker] && Blocks(56*worker) == worker
			}
			done <- ok
		}()
	}
	for range 8 {
		if !<-done {
			t.Error("an answer is another call's")
		}
	}
}
