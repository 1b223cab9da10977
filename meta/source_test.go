package meta

import (
	"bytes"
	"slices"
	"testing"

	"moraine/api"
)

// disk is a Source: bytes at addresses, and what is wrong at some of them. It tells which addresses it was asked for.
type disk struct {
	bytes map[int][]byte
	wrong map[int]api.Errno
	asked []int
}

// Block answers bytes also beside what is wrong.
func (d *disk) Block(address int) ([]byte, api.Errno) {
	d.asked = append(d.asked, address)
	return d.bytes[address], d.wrong[address]
}

// diskOf: a disk with blocks at addresses.
func diskOf(blocks []api.Block, at []int) *disk {
	d := &disk{bytes: make(map[int][]byte), wrong: make(map[int]api.Errno)}
	for i, b := range blocks {
		d.bytes[at[i]] = b.Data
	}
	return d
}

// lender is a Source whose answers all lie in one and the same memory: each of them ends the one ahead of it.
type lender struct {
	of     *disk
	memory [80]byte
}

func (l *lender) Block(address int) ([]byte, api.Errno) {
	b, err := l.of.Block(address)
	for i := range l.memory {
		l.memory[i] = 0xEE
	}
	return l.memory[:copy(l.memory[:], b)], err
}

// plainRecord is what a record's bytes tell.
type plainRecord struct {
	kind, links, size int
	own               []int
	single, double    int
}

// two: the number of two bytes at a place.
func two(b []byte, at int) int {
	return int(b[at]) + 256*int(b[at+1])
}

// listOf: numbers of two bytes.
func listOf(b []byte, at, n int) []int {
	var out []int
	for i := range n {
		out = append(out, two(b, at+2*i))
	}
	return out
}

// plainGet: what a record's bytes tell, and whether it is right.
func plainGet(b []byte) (plainRecord, bool) {
	r := plainRecord{int(b[0]), two(b, 1), two(b, 3) + 65536*two(b, 5), listOf(b, 7, 16), two(b, 39), two(b, 41)}
	is := (r.kind == 1 || r.kind == 2) && r.links > 0 && r.size <= 46368 && bytes.Equal(b[43:], make([]byte, 13))
	n := plainBlocks(r.size)
	for i, p := range r.own {
		is = is && (p == 0 || i < n)
	}
	return r, is && (r.single == 0 || n > 16) && (r.double == 0 || n > 44)
}

// reader reads blocks in the plainest way: behind the first thing that is wrong it reads none any more.
type reader struct {
	g    api.Geometry
	from Source
	read []int
	err  api.Errno
}

// fail: this is wrong, unless something else was ahead of it.
func (r *reader) fail(is bool) {
	if is && r.err == api.OK {
		r.err = api.ErrCorrupt
	}
}

// get reads a block; noughts, if something is wrong.
func (r *reader) get(address int) []byte {
	r.fail(address < 1 || address > greatest(r.g))
	if r.err != api.OK {
		return make([]byte, 56)
	}
	b, err := r.from.Block(address)
	if err != api.OK {
		r.err = err
		return make([]byte, 56)
	}
	r.fail(len(b) != 56)
	if r.err != api.OK {
		return make([]byte, 56)
	}
	r.read = append(r.read, address)
	return slices.Clone(b)
}

// pointersAt: the pointers of a block that a pointer tells, if it does, and whether this tells one without pointers.
func (r *reader) pointersAt(p int) ([]int, bool) {
	if p == 0 {
		return make([]int, 28), false
	}
	list := listOf(r.get(p), 0, 28)
	return list, !slices.ContainsFunc(list, func(p int) bool { return p != 0 })
}

// node reads a node, and tells whether it has a pointers' block without pointers.
func (r *reader) node(ino, address int) (api.Inode, bool) {
	record, ok := plainGet(r.get(address))
	r.fail(!ok)
	if r.err != api.OK {
		return api.Inode{}, false
	}
	all := record.own
	single, empty := r.pointersAt(record.single)
	all = append(all, single...)
	many, emptyMany := r.pointersAt(record.double)
	for _, p := range many {
		one, emptyOne := r.pointersAt(p)
		all, empty = append(all, one...), empty || emptyOne
	}
	n := plainBlocks(record.size)
	for k, p := range all {
		r.fail(p > greatest(r.g) || p != 0 && k >= n)
	}
	for i, p := range many {
		r.fail(p != 0 && 44+28*i >= n)
	}
	for len(all) > 0 && all[len(all)-1] == 0 {
		all = all[:len(all)-1]
	}
	return api.Inode{Ino: ino, Kind: record.kind, Links: record.links, Size: record.size, Addrs: all}, empty || emptyMany
}

// plainLoad: what Load is to answer.
func plainLoad(g api.Geometry, from Source, root int) ([]api.Inode, []int, api.Errno) {
	r := &reader{g: g, from: from}
	b := r.get(root)
	r.fail(two(b, 0) != 21074 || !bytes.Equal(b[6:], make([]byte, 50)))
	records := listOf(r.get(two(b, 2)), 0, 28)
	records = append(records, listOf(r.get(two(b, 4)), 0, 28)...)
	var list []api.Inode
	empty := false
	for i, p := range records {
		if p != 0 && r.err == api.OK {
			n, hasEmpty := r.node(i+1, p)
			list, empty = append(list, n), empty || hasEmpty
		}
	}
	r.fail(empty || !plainRight(g, list))
	if r.err != api.OK {
		return nil, nil, r.err
	}
	return list, r.read, api.OK
}

// loads holds Load against the plain way: what it answers, and what the Source is asked for; also if the Source lends its memory.
func loads(t *testing.T, g api.Geometry, d *disk, root int) api.Errno {
	t.Helper()
	d.asked = nil
	list, read, err := plainLoad(g, d, root)
	asked := d.asked
	for _, from := range []Source{d, &lender{of: d}} {
		d.asked = nil
		gotList, gotRead, got := Load(g, from, root)
		if got != err || !sameList(gotList, list) || !slices.Equal(gotRead, read) {
			t.Errorf("%v: Load of %d: %v, %v, %v, not %v, %v, %v", g, root, gotList, gotRead, got, list, read, err)
		}
		if !slices.Equal(d.asked, asked) {
			t.Errorf("%v: Load of %d asked for %v, not for %v", g, root, d.asked, asked)
		}
	}
	return err
}

// fails: Load answers this error, and nothing else.
func fails(t *testing.T, g api.Geometry, d *disk, root int, want api.Errno) {
	t.Helper()
	if list, read, err := Load(g, d, root); err != want || len(list) > 0 || len(read) > 0 {
		t.Errorf("%v: Load of %d: %v, %v, %v, not %v", g, root, list, read, err, want)
	}
	if err := loads(t, g, d, root); err != want {
		t.Errorf("%v: the plain way of %d: %v, not %v", g, root, err, want)
	}
}

// image is what was built of a list, on a disk.
type image struct {
	*disk
	t    *testing.T
	g    api.Geometry
	list []api.Inode
	// where has the address of each block, by its Owner and Index.
	where map[[2]int]int
	root  int
}

// built: the image of a list, with its blocks at every thirteenth address or so from the last one on, counted round.
func built(t *testing.T, g api.Geometry, list []api.Inode) *image {
	t.Helper()
	n := Count(g, list)
	var at []int
	step, most := 13, greatest(g)
	for slices.ContainsFunc(from(2, step+1), func(d int) bool { return step%d == 0 && most%d == 0 }) {
		step++
	}
	for i := range n {
		at = append(at, most-i*step%most)
	}
	return builtAt(t, g, list, at)
}

// builtAt: the image of a list, with its blocks at these addresses.
func builtAt(t *testing.T, g api.Geometry, list []api.Inode, at []int) *image {
	t.Helper()
	blocks, ok := Build(g, list, at)
	if !ok || len(at) != len(blocks) {
		t.Fatalf("%v: %d blocks of %v, %v", g, len(blocks), short(list), ok)
	}
	x := &image{disk: diskOf(blocks, at), t: t, g: g, list: list, where: make(map[[2]int]int), root: at[len(at)-1]}
	for i, b := range blocks {
		x.where[[2]int{b.Owner, b.Index}] = at[i]
	}
	return x
}

// at: the address of a block.
func (x *image) at(owner, index int) int {
	x.t.Helper()
	address := x.where[[2]int{owner, index}]
	if address == 0 {
		x.t.Fatalf("no block %d, %d", owner, index)
	}
	return address
}

// order: the addresses of all blocks, in the order in which they are read.
func (x *image) order() []int {
	out := []int{x.at(0, 0), x.at(0, 1), x.at(0, 2)}
	for _, n := range x.list {
		for _, index := range append([]int{999, 1000, 1100}, from(1001, 1029)...) {
			if address := x.where[[2]int{n.Ino, index}]; address != 0 {
				out = append(out, address)
			}
		}
	}
	return out
}

// loadsAgain: what was built is loaded again.
func (x *image) loadsAgain() {
	x.t.Helper()
	list, read, err := Load(x.g, x, x.root)
	if err != api.OK || !sameList(list, shortened(x.list)) || !slices.Equal(read, x.order()) {
		x.t.Errorf("%v: loaded again: %v, %v, %v, not %v, %v", x.g, short(list), read, err, short(x.list), x.order())
	}
	loads(x.t, x.g, x.disk, x.root)
}

// turned does something with other bytes in the place of a block's, and puts these back.
func (x *image) turned(address int, b []byte, do func()) {
	was := x.bytes[address]
	x.bytes[address] = b
	do()
	x.bytes[address] = was
}

// set does something with another number of two bytes at a place of a block.
func (x *image) set(address, place, n int, do func()) {
	b := slices.Clone(x.bytes[address])
	copy(b[place:], low(n, 2))
	x.turned(address, b, do)
}

// ends: with its bytes as they are now it is loaded with this error.
func (x *image) ends(want api.Errno) {
	x.t.Helper()
	fails(x.t, x.g, x.disk, x.root, want)
}

// loads: with its bytes as they are now it is loaded as in the plain way.
func (x *image) loads() api.Errno {
	x.t.Helper()
	return loads(x.t, x.g, x.disk, x.root)
}

// Where pointers stand in a record.
const (
	ownAt    = 7
	singleAt = 39
	doubleAt = 41
)

// rich is a list with all kinds of nodes: a root with some blocks, a file with all of them, ones with some of each kind, ones without any, in both charts.
func rich() []api.Inode {
	all := file(5, from(1, 829)...)
	holes := file(28, make([]int, 828)...)
	for k := 3; k < 828; k += 97 {
		holes.Addrs[k] = 3776 - k
	}
	holes.Size = 46313
	single := only(29, 30, 77)
	single.Kind, single.Links = 2, 9
	single.Addrs[16] = 3776
	return []api.Inode{
		{Ino: 1, Kind: 2, Links: 5, Size: 113, Addrs: []int{3, 0, 9}},
		sized(2, 46368), all, only(9, 44, 3000), holes, single, only(30, 827, 1), file(55, 8), sized(56, 0),
	}
}
