package file

import (
	"bytes"
	"math"
	"slices"
	"sync"
	"testing"

	"moraine/api"
)

// disk is a Source: bytes at addresses, and what is wrong at some of them. It tells which addresses it was asked for.
type disk struct {
	bytes map[int][]byte
	wrong map[int]api.Errno
	asked []int
}

// Block answers bytes also beside what is wrong.
func (d *disk) Block(address int) ([]byte, api.Errno) {
	d.asked = append(d.asked, address)
	return d.bytes[address], d.wrong[address]
}

// newDisk: a disk with bytes at all addresses up to 900, no two of them alike; at every seventh one the last 20 bytes are noughts, at every eleventh one all are.
func newDisk() *disk {
	return diskOf(900)
}

// fewDisk: one with bytes at few addresses, for tests that make many.
func fewDisk() *disk {
	return diskOf(12)
}

// diskOf: a disk with bytes at all addresses up to one.
func diskOf(last int) *disk {
	d := &disk{bytes: make(map[int][]byte), wrong: make(map[int]api.Errno)}
	for address := 1; address <= last; address++ {
		b := make([]byte, 56)
		for i := range b {
			b[i] = byte(1 + (address*57+i*3)%255)
		}
		if address%7 == 0 {
			clear(b[36:])
		}
		if address%11 == 0 {
			clear(b)
		}
		d.bytes[address] = b
	}
	return d
}

// lender is a Source whose answers all lie in one and the same memory: each of them ends the one ahead of it.
type lender struct {
	of     *disk
	memory [80]byte
}

func (l *lender) Block(address int) ([]byte, api.Errno) {
	b, err := l.of.Block(address)
	for i := range l.memory {
		l.memory[i] = 0xEE
	}
	return l.memory[:copy(l.memory[:], b)], err
}

// What a block can be.
const (
	isNone = iota
	isAt
	isNew
)

// cell is a block, told in the plainest way.
type cell struct {
	kind, address int
	bytes         string
}

// twin is a file told over again in the plainest way: each block that there can be, in order.
type twin struct {
	size  int
	cells [828]cell
	from  *disk
	// asked has the addresses that the disk has to be asked for.
	asked []int
}

// plainNew: the twin of a new file, and whether there can be one.
func plainNew(size int, addresses []int, from *disk) (twin, bool) {
	p := twin{size: size, from: from}
	if size < 0 || size > 46368 {
		return twin{}, false
	}
	for k, address := range addresses {
		if k*56 >= size || address < 0 || address > 65535 {
			return twin{}, false
		}
		if address > 0 {
			p.cells[k] = cell{kind: isAt, address: address}
		}
	}
	return p, true
}

// block: all bytes of a block.
func (p *twin) block(k int) ([]byte, api.Errno) {
	c := p.cells[k]
	switch c.kind {
	case isNew:
		return []byte(c.bytes), api.OK
	case isAt:
		p.asked = append(p.asked, c.address)
		return slices.Clone(p.from.bytes[c.address]), p.from.wrong[c.address]
	}
	return make([]byte, 56), api.OK
}

// put: a block has these bytes.
func (p *twin) put(k int, b []byte) {
	p.cells[k] = cell{}
	if !bytes.Equal(b, make([]byte, 56)) {
		p.cells[k] = cell{kind: isNew, bytes: string(b)}
	}
}

// read goes byte by byte.
func (p *twin) read(at, n int) ([]byte, api.Errno) {
	if at < 0 || n < 0 {
		return nil, api.ErrRange
	}
	var out, b []byte
	last := -1
	for i := at; i < p.size && i-at < n; i++ {
		if i/56 != last {
			last = i / 56
			var err api.Errno
			if b, err = p.block(last); err != api.OK {
				return nil, err
			}
		}
		out = append(out, b[i%56])
	}
	return out, api.OK
}

// write goes over all blocks that there can be, first for what is wrong.
func (p *twin) write(at int, data []byte) api.Errno {
	if at < 0 || at > 46368 || at+len(data) > 46368 {
		return api.ErrRange
	}
	now := make(map[int][]byte)
	for k := range p.cells {
		if len(data) == 0 || 56*k+56 <= at || 56*k >= at+len(data) {
			continue
		}
		has := 0
		for i := range 56 {
			if j := 56*k + i - at; j >= 0 && j < len(data) {
				has++
			}
		}
		b := make([]byte, 56)
		if has < 56 {
			var err api.Errno
			if b, err = p.block(k); err != api.OK {
				return err
			}
		}
		for i := range b {
			if j := 56*k + i - at; j >= 0 && j < len(data) {
				b[i] = data[j]
			}
		}
		now[k] = b
	}
	for k, b := range now {
		p.put(k, b)
	}
	if len(data) > 0 && at+len(data) > p.size {
		p.size = at + len(data)
	}
	return api.OK
}

// trunc goes over all blocks that there can be.
func (p *twin) trunc(n int) api.Errno {
	if n < 0 || n > 46368 {
		return api.ErrRange
	}
	for k := range p.cells {
		if n < p.size && 56*k < n && n < 56*k+56 {
			b, err := p.block(k)
			if err != api.OK {
				return err
			}
			for i := range b {
				if 56*k+i >= n {
					b[i] = 0
				}
			}
			p.put(k, b)
		}
	}
	for k := range p.cells {
		if 56*k >= n {
			p.cells[k] = cell{}
		}
	}
	p.size = n
	return api.OK
}

// pair is a file and its twin: each call goes to both, and both must answer the same.
type pair struct {
	t *testing.T
	f *File
	p twin
}

// made: a new file, and its twin, whose blocks aren't all looked at.
func made(t *testing.T, d *disk, size int, addresses ...int) *pair {
	t.Helper()
	p, ok := plainNew(size, addresses, d)
	f, err := New(size, addresses, d)
	if !ok || f == nil || err != api.OK {
		t.Fatalf("New of %d, %v: %v, %v", size, addresses, f, err)
	}
	return &pair{t, f, p}
}

// both: a new file over a new disk, and its twin.
func both(t *testing.T, size int, addresses ...int) *pair {
	t.Helper()
	x := made(t, newDisk(), size, addresses...)
	x.same()
	return x
}

// asks: the disk was asked for what the twin asks for, in its order.
func (x *pair) asks(what string) {
	x.t.Helper()
	if !slices.Equal(x.p.from.asked, x.p.asked) {
		x.t.Errorf("%s asked for %v, not for %v", what, x.p.from.asked, x.p.asked)
	}
	x.p.from.asked, x.p.asked = nil, nil
}

// read answers the bytes, too.
func (x *pair) read(at, n int) ([]byte, api.Errno) {
	x.t.Helper()
	got, err := x.f.Read(at, n)
	want, wantErr := x.p.read(at, n)
	if !bytes.Equal(got, want) || err != wantErr {
		x.t.Errorf("Read of %d, %d: %v, %v, not %v, %v", at, n, got, err, want, wantErr)
	}
	x.asks("Read")
	return got, wantErr
}

func (x *pair) write(at int, data []byte) api.Errno {
	x.t.Helper()
	err, want := x.f.Write(at, data), x.p.write(at, data)
	if err != want {
		x.t.Errorf("Write of %d bytes at %d: %v, not %v", len(data), at, err, want)
	}
	x.asks("Write")
	return want
}

func (x *pair) trunc(n int) api.Errno {
	x.t.Helper()
	err, want := x.f.Trunc(n), x.p.trunc(n)
	if err != want {
		x.t.Errorf("Trunc to %d: %v, not %v", n, err, want)
	}
	x.asks("Trunc")
	return want
}

// clone: another pair, of the file's clone.
func (x *pair) clone() *pair {
	x.t.Helper()
	f := x.f.Clone()
	if f == nil || f == x.f || f.Blocks() == x.f.Blocks() {
		x.t.Fatal("no file of its own:", f)
	}
	x.asks("Clone")
	return &pair{x.t, f, x.p}
}

// place puts a new block at an address of its own, as a writing to disks does.
func (x *pair) place(k, address int) {
	x.t.Helper()
	x.p.from.bytes[address] = []byte(x.p.cells[k].bytes)
	if err := x.f.Blocks().Place(k, address); err != api.OK {
		x.t.Errorf("Place of %d: %v", k, err)
	}
	x.p.cells[k] = cell{kind: isAt, address: address}
}

// own puts bytes into a block by the file's map.
func (x *pair) own(k int, b []byte) {
	x.t.Helper()
	if err := x.f.Blocks().Put(k, b); err != api.OK {
		x.t.Errorf("Put of %d: %v", k, err)
	}
	x.p.put(k, b)
}

// is holds one block against the twin.
func (x *pair) is(k int) {
	x.t.Helper()
	want := x.p.cells[k]
	at := x.f.Blocks().At(k)
	b, isFresh := x.f.Blocks().Bytes(k)
	if at != want.address || string(b) != want.bytes || isFresh != (want.kind == isNew) {
		x.t.Errorf("block %d is at %d, new %v with %v, not %v", k, at, isFresh, b, want)
	}
}

// same holds all that there is against the twin: the size, each block, all bytes.
func (x *pair) same() {
	x.t.Helper()
	x.quick()
	for k := range x.p.cells {
		x.is(k)
	}
	x.read(0, 46368)
}

// quick holds the size against the twin, and which blocks are there.
func (x *pair) quick() {
	x.t.Helper()
	if got := x.f.Size(); got != x.p.size {
		x.t.Errorf("the size is %d, not %d", got, x.p.size)
	}
	var fresh, there []int
	for k, c := range x.p.cells {
		if c.kind == isNew {
			fresh = append(fresh, k)
		}
		if c.kind != isNone {
			there = append(there, k)
		}
	}
	if m := x.f.Blocks(); m == nil || !slices.Equal(m.Fresh(), fresh) || !slices.Equal(m.There(), there) {
		x.t.Errorf("new aren't %v, there aren't %v", fresh, there)
	}
}

// reading: a call that reads.
func (x *pair) reading(at, n int) func() api.Errno {
	return func() api.Errno {
		x.t.Helper()
		_, err := x.read(at, n)
		return err
	}
}

// refused: a call answers this error and changes nothing.
func (x *pair) refused(want api.Errno, call func() api.Errno) {
	x.t.Helper()
	size, cells := x.p.size, x.p.cells
	if got := call(); got != want {
		x.t.Errorf("%v, not %v", got, want)
	}
	if x.p.size != size || x.p.cells != cells {
		x.t.Error("the twin is changed by an error")
	}
	x.quick()
	for k, c := range cells {
		if c.kind != isNone {
			x.is(k)
		}
	}
}

// isFile holds the size and all bytes of a file against those told, and which of its blocks are there.
func isFile(t *testing.T, f *File, want []byte, there ...int) {
	t.Helper()
	got, err := f.Read(0, math.MaxInt)
	if err != api.OK || !bytes.Equal(got, want) || f.Size() != len(want) {
		t.Errorf("the file has %d bytes, %v, %v, not %v", f.Size(), got, err, want)
	}
	if got := f.Blocks().There(); !slices.Equal(got, there) {
		t.Errorf("there are %v, not %v", got, there)
	}
}

// from: the numbers from one on, without another one.
func from(first, end int) []int {
	var out []int
	for n := first; n < end; n++ {
		out = append(out, n)
	}
	return out
}

// filled: so many bytes, all of them this one.
func filled(n int, with byte) []byte {
	return bytes.Repeat([]byte{with}, n)
}

// rising: so many bytes, no two neighbours alike, none of them 0.
func rising(n, first int) []byte {
	out := make([]byte, n)
	for i := range out {
		out[i] = byte(1 + (first+i)%251)
	}
	return out
}

// noSizes are numbers that no file's size is.
func noSizes() []int {
	return []int{-1, -2, -56, -46368, 46369, 46370, 46424, 65536, 1 << 31, 1 << 32, 1<<32 + 56, 56 - 1<<32, -1 << 31, math.MinInt, math.MinInt + 1, math.MinInt + 56, math.MaxInt - 56, math.MaxInt - 1, math.MaxInt}
}

// mixed: a file whose blocks are by turns at an address, new, and none; it ends within its last block, which is at an address.
func mixed(t *testing.T) *pair {
	t.Helper()
	var addresses []int
	for k := range 31 {
		addresses = append(addresses, []int{1 + k, 0, 0}[k%3])
	}
	x := made(t, newDisk(), 30*56+17, addresses...)
	for k := 1; k < 30; k += 3 {
		x.write(56*k, rising(56, k))
	}
	x.same()
	return x
}

func TestExample(t *testing.T) {
	f, err := New(0, nil, newDisk())
	if err != api.OK || f.Size() != 0 {
		t.Fatal(f, err)
	}
	if err := f.Write(100, []byte{7}); err != api.OK {
		t.Fatal(err)
	}
	isFile(t, f, append(make([]byte, 100), 7), 1)
	if got := f.Blocks().Fresh(); !slices.Equal(got, []int{1}) {
		t.Error("new are", got)
	}
}

// The numbers of the chapter.
func TestLimits(t *testing.T) {
	if api.MaxSize != 46368 || api.Payload != 56 || api.MaxBlocks != 828 || api.ErrRange != 28 {
		t.Error("other limits")
	}
}

// A row of calls, told by hand.
func TestRowOfCalls(t *testing.T) {
	d := &disk{bytes: map[int][]byte{5: filled(56, 5), 6: filled(56, 6)}}
	f, err := New(70, []int{5, 6}, d)
	if err != api.OK {
		t.Fatal(err)
	}
	isFile(t, f, slices.Concat(filled(56, 5), filled(14, 6)), 0, 1)
	f.Write(80, []byte{1, 2})
	isFile(t, f, slices.Concat(filled(56, 5), filled(24, 6), []byte{1, 2}), 0, 1)
	if f.Blocks().At(0) != 5 || f.Blocks().At(1) != 0 {
		t.Error("block 1 isn't new alone")
	}
	if b, _ := f.Blocks().Bytes(1); !bytes.Equal(b, slices.Concat(filled(24, 6), []byte{1, 2}, filled(30, 6))) {
		t.Error("block 1 is", b)
	}
	f.Trunc(20)
	isFile(t, f, filled(20, 5), 0)
	f.Trunc(112)
	isFile(t, f, slices.Concat(filled(20, 5), make([]byte, 92)), 0)
	f.Write(0, make([]byte, 20))
	isFile(t, f, make([]byte, 112))
	f.Trunc(0)
	isFile(t, f, nil)
	f.Write(46367, []byte{9})
	isFile(t, f, append(make([]byte, 46367), 9), 827)
}

// Files that have nothing in common but their Source, at the same time.
func TestAtTheSameTime(t *testing.T) {
	var all sync.WaitGroup
	for n := range 8 {
		all.Go(func() {
			x := made(t, newDisk(), 560, from(1+n, 11+n)...)
			for i := range 200 {
				x.write(i*37%3000, rising(i%200, n))
				x.read(i*53%3000, i)
				x.trunc(i * 71 % 3000)
			}
			x.same()
		})
	}
	all.Wait()
}
