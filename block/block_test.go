package block

import (
	"bytes"
	"math"
	"slices"
	"testing"

	"moraine/api"
)

// What a block can be.
const (
	isNone = iota
	isAt
	isNew
)

// cell is a block, told in the plainest way.
type cell struct {
	kind, address int
	bytes         string
}

// twin is a map told over again in the plainest way: each block that there can be, in order.
type twin [828]cell

// plainNew: the twin of a new map, and whether there can be one.
func plainNew(addresses []int) (twin, bool) {
	var p twin
	for k, address := range addresses {
		if k == 828 || address < 0 || address > 65535 {
			return twin{}, false
		}
		if address > 0 {
			p[k] = cell{kind: isAt, address: address}
		}
	}
	return p, true
}

// of: the block with a number, and one that is none, where there is no such block.
func (p *twin) of(k int) cell {
	if k < 0 || k > 827 {
		return cell{}
	}
	return p[k]
}

func (p *twin) put(k int, b []byte) api.Errno {
	if k < 0 || k > 827 || len(b) != 56 {
		return api.ErrRange
	}
	if string(b) == string(make([]byte, 56)) {
		p[k] = cell{}
	} else {
		p[k] = cell{kind: isNew, bytes: string(b)}
	}
	return api.OK
}

func (p *twin) cut(n int) {
	for k := range p {
		if k >= n {
			p[k] = cell{}
		}
	}
}

// numbers: those of the blocks that are one of these.
func (p *twin) numbers(kinds ...int) []int {
	var out []int
	for k, c := range p {
		if slices.Contains(kinds, c.kind) {
			out = append(out, k)
		}
	}
	return out
}

func (p *twin) place(k, address int) api.Errno {
	if p.of(k).kind != isNew || address < 1 || address > 65535 {
		return api.ErrRange
	}
	p[k] = cell{kind: isAt, address: address}
	return api.OK
}

func (p *twin) move(from, to int) int {
	n := 0
	for k, c := range p {
		if c.kind == isAt && c.address == from && to >= 1 && to <= 65535 {
			p[k].address = to
			n++
		}
	}
	return n
}

// pair is a map and its twin: each call goes to both, and both must answer the same.
type pair struct {
	t *testing.T
	m *Map
	p twin
}

// unlooked: a new pair, whose blocks aren't all looked at, for tests that make many.
func unlooked(t *testing.T, addresses []int) *pair {
	t.Helper()
	p, ok := plainNew(addresses)
	m, err := New(addresses)
	if !ok || m == nil || err != api.OK {
		t.Fatalf("New of %v: %v, %v", addresses, m, err)
	}
	return &pair{t, m, p}
}

// both: a new map of these addresses, and its twin.
func both(t *testing.T, addresses ...int) *pair {
	t.Helper()
	x := unlooked(t, addresses)
	x.same()
	return x
}

func (x *pair) put(k int, b []byte) {
	x.t.Helper()
	if got, want := x.m.Put(k, b), x.p.put(k, b); got != want {
		x.t.Errorf("Put of %v as block %d: %v, not %v", b, k, got, want)
	}
	x.is(k)
}

func (x *pair) cut(n int) {
	x.t.Helper()
	x.m.Cut(n)
	x.p.cut(n)
	x.is(n - 1)
	x.is(n)
}

func (x *pair) place(k, address int) {
	x.t.Helper()
	if got, want := x.m.Place(k, address), x.p.place(k, address); got != want {
		x.t.Errorf("Place of block %d at %d: %v, not %v", k, address, got, want)
	}
	x.is(k)
}

func (x *pair) move(from, to int) {
	x.t.Helper()
	if got, want := x.m.Move(from, to), x.p.move(from, to); got != want {
		x.t.Errorf("Move from %d to %d: %d, not %d", from, to, got, want)
	}
}

// clone: another pair, of the map's clone.
func (x *pair) clone() *pair {
	x.t.Helper()
	m := x.m.Clone()
	if m == nil || m == x.m {
		x.t.Fatal("no map of its own:", m)
	}
	return &pair{x.t, m, x.p}
}

// is holds the answers about one block against the twin.
func (x *pair) is(k int) {
	x.t.Helper()
	want := x.p.of(k)
	if got := x.m.At(k); got != want.address {
		x.t.Errorf("block %d is at %d, not %d", k, got, want.address)
	}
	if b, ok := x.m.Bytes(k); string(b) != want.bytes || ok != (want.kind == isNew) {
		x.t.Errorf("block %d is new: %v, %v, not %v", k, b, ok, []byte(want.bytes))
	}
}

// lists holds Fresh and There against the twin.
func (x *pair) lists() {
	x.t.Helper()
	if got, want := x.m.Fresh(), x.p.numbers(isNew); !slices.Equal(got, want) {
		x.t.Errorf("new are %v, not %v", got, want)
	}
	if got, want := x.m.There(), x.p.numbers(isNew, isAt); !slices.Equal(got, want) {
		x.t.Errorf("there are %v, not %v", got, want)
	}
}

// same holds all that the map tells against the twin.
func (x *pair) same() {
	x.t.Helper()
	for k := -3; k < 832; k++ {
		x.is(k)
	}
	for _, k := range nowheres() {
		x.is(k)
	}
	x.lists()
}

// nowheres are numbers that no block has.
func nowheres() []int {
	return []int{-1, -2, -56, -828, 828, 829, 1000, 65535, 65536, 1 << 31, 1 << 32, 1<<32 + 5, -1 << 31, 5 - 1<<32, math.MinInt, math.MinInt + 1, math.MinInt + 5, math.MaxInt - 1, math.MaxInt}
}

// noAddresses are numbers that no address is, 0 neither.
func noAddresses() []int {
	return []int{-1, -2, -65535, -65536, 65536, 65537, 1 << 17, 1 << 31, 1 << 32, 1<<32 + 5, 1<<48 + 7, 5 - 1<<32, math.MinInt, math.MinInt + 1, math.MinInt + 5, math.MaxInt - 1, math.MaxInt}
}

// from: the numbers from one on, without another one.
func from(first, end int) []int {
	var out []int
	for n := first; n < end; n++ {
		out = append(out, n)
	}
	return out
}

// filled: 56 bytes, all of them this one.
func filled(x byte) []byte {
	return bytes.Repeat([]byte{x}, 56)
}

// one: 56 bytes, noughts but at this place.
func one(at int, x byte) []byte {
	b := make([]byte, 56)
	b[at] = x
	return b
}

// mixed: a pair whose blocks are by turns at an address, new, and none, from 0 to the last one.
func mixed(t *testing.T) *pair {
	t.Helper()
	var addresses []int
	for k := range 828 {
		addresses = append(addresses, []int{1 + k%50, 9, 0}[k%3])
	}
	x := both(t, addresses...)
	for k := 1; k < 828; k += 3 {
		x.put(k, filled(byte(1+k%255)))
	}
	x.same()
	return x
}

func TestExamples(t *testing.T) {
	m, err := New([]int{5, 0, 7})
	if err != api.OK || !slices.Equal(m.There(), []int{0, 2}) {
		t.Error(m.There(), err)
	}
	if err := m.Put(0, make([]byte, 56)); err != api.OK || !slices.Equal(m.There(), []int{2}) {
		t.Error(m.There(), err)
	}
}

// The numbers of layer 15 are the limits of the document.
func TestLimits(t *testing.T) {
	if api.MaxBlocks != 828 || api.Payload != 56 || api.ErrRange != 28 {
		t.Error(api.MaxBlocks, api.Payload, api.ErrRange)
	}
}

// A row of calls by hand.
func TestCallsOneBehindTheOther(t *testing.T) {
	m, _ := New([]int{0, 5, 5, 7})
	isList := func(got []int, want ...int) {
		t.Helper()
		if !slices.Equal(got, want) {
			t.Errorf("%v, not %v", got, want)
		}
	}
	isOK := func(err, want api.Errno) {
		t.Helper()
		if err != want {
			t.Errorf("%v, not %v", err, want)
		}
	}
	isList(m.Fresh())
	isList(m.There(), 1, 2, 3)
	isOK(m.Place(1, 9), api.ErrRange)
	isOK(m.Put(800, one(55, 1)), api.OK)
	isOK(m.Put(0, one(0, 255)), api.OK)
	isOK(m.Put(3, filled(3)), api.OK)
	isList(m.Fresh(), 0, 3, 800)
	isList(m.There(), 0, 1, 2, 3, 800)
	isList([]int{m.At(0), m.At(1), m.At(2), m.At(3), m.At(800)}, 0, 5, 5, 0, 0)
	isList([]int{m.Move(7, 5), m.Move(5, 8), m.Move(5, 8), m.Move(8, 8)}, 0, 2, 0, 2)
	isOK(m.Place(800, 8), api.OK)
	isOK(m.Place(800, 8), api.ErrRange)
	isOK(m.Place(0, 0), api.ErrRange)
	isList([]int{m.Move(8, 65535), m.At(1), m.At(2), m.At(800), m.At(0)}, 3, 65535, 65535, 65535, 0)
	isOK(m.Put(1, make([]byte, 56)), api.OK)
	isOK(m.Put(3, make([]byte, 56)), api.OK)
	isList(m.Fresh(), 0)
	isList(m.There(), 0, 2, 800)
	m.Cut(2)
	isList(m.There(), 0)
	b, ok := m.Bytes(0)
	if !ok || !bytes.Equal(b, one(0, 255)) {
		t.Error(b, ok)
	}
	m.Cut(0)
	isList(m.There())
	isList(m.Fresh())
}

// Many maps at the same time: what one of them has isn't another one's.
func TestAtTheSameTime(t *testing.T) {
	done := make(chan bool)
	for worker := range 8 {
		go func() {
			ok := true
			for round := range 200 {
				m, err := New([]int{worker + 1, 0, round + 1})
				ok = ok && err == api.OK && m.Put(worker+3, filled(byte(worker+1))) == api.OK
				ok = ok && m.Move(worker+1, 60000+worker) >= 1 && m.At(0) == 60000+worker
				b, isNew := m.Clone().Bytes(worker + 3)
				ok = ok && isNew && bytes.Equal(b, filled(byte(worker+1))) && slices.Equal(m.There(), []int{0, 2, worker + 3})
			}
			done <- ok
		}()
	}
	for range 8 {
		if !<-done {
			t.Error("an answer is another map's")
		}
	}
}
