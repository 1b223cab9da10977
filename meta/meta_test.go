package meta

import (
	"bytes"
	"math"
	"slices"
	"testing"

	"moraine/api"
)

// shape: a geometry.
func shape(disks, rows, segs int) api.Geometry {
	return api.Geometry{Disks: disks, Rows: rows, Segs: segs}
}

// shapes are right geometries, from the fewest addresses to the most.
func shapes() []api.Geometry {
	return []api.Geometry{shape(3, 1, 56), shape(3, 1, 64), shape(4, 2, 16), shape(3, 4, 12), shape(16, 1, 12), shape(5, 3, 31), shape(16, 4, 12), shape(16, 4, 64)}
}

// wide is the geometry with the most addresses.
func wide() api.Geometry {
	return shape(16, 4, 64)
}

// notShapes are geometries that aren't right.
func notShapes() []api.Geometry {
	return []api.Geometry{
		{}, shape(0, 2, 16), shape(2, 4, 64), shape(17, 4, 64), shape(-4, 2, 16), shape(4, 0, 16), shape(4, 5, 16), shape(4, -2, 16),
		shape(4, 2, 11), shape(4, 2, 65), shape(4, 2, -16), shape(3, 1, 55), shape(3, 1, 12), shape(4, 1, 12), shape(math.MaxInt, 4, 64),
		shape(16, math.MaxInt, 64), shape(16, 4, math.MaxInt), shape(math.MinInt, math.MinInt, math.MinInt), shape(4+1<<32, 2, 16),
	}
}

// from: the numbers from one on, without another one.
func from(first, end int) []int {
	var out []int
	for n := first; n < end; n++ {
		out = append(out, n)
	}
	return out
}

// far are numbers that are no address, whatever the geometry.
func far() []int {
	return []int{-1, -2, 3777, 65535, 65536, 65537, 1 << 31, 1 << 32, 1<<32 + 1, 1 - 1<<32, 1<<48 + 1, math.MinInt, math.MinInt + 1, math.MaxInt - 1, math.MaxInt}
}

// alone is a root without data.
func alone() api.Inode {
	return api.Inode{Ino: 1, Kind: 2, Links: 2}
}

// file is one with as many whole blocks as it has addresses.
func file(ino int, addrs ...int) api.Inode {
	return api.Inode{Ino: ino, Kind: 1, Links: 1, Size: 56 * len(addrs), Addrs: addrs}
}

// only: a file whose block with this number has an address, and the ones ahead of it none.
func only(ino, block, address int) api.Inode {
	return file(ino, append(make([]int, block), address)...)
}

// withRoot: a list of a root alone, and these.
func withRoot(nodes ...api.Inode) []api.Inode {
	return append([]api.Inode{alone()}, nodes...)
}

// sized: a file of a size without addresses.
func sized(ino, size int) api.Inode {
	return api.Inode{Ino: ino, Kind: 1, Links: 1, Size: size}
}

// copied: a list whose memory is its own.
func copied(list []api.Inode) []api.Inode {
	out := slices.Clone(list)
	for i := range out {
		out[i].Addrs = slices.Clone(out[i].Addrs)
	}
	return out
}

// plainIsGeo: is a geometry right?
func plainIsGeo(g api.Geometry) bool {
	within := g.Disks >= 3 && g.Disks <= 16 && g.Rows >= 1 && g.Rows <= 4 && g.Segs >= 12 && g.Segs <= 64
	return within && (1+g.Segs/8)*(g.Rows*(g.Disks-1)-1) >= 8
}

// greatest is a geometry's greatest address; 0, if it isn't right.
func greatest(g api.Geometry) int {
	if !plainIsGeo(g) {
		return 0
	}
	return g.Segs * (g.Rows*(g.Disks-1) - 1)
}

// plainBlocks: how many blocks a size has.
func plainBlocks(size int) int {
	n := 0
	for left := size; left > 0 && size <= 46368; left -= 56 {
		n++
	}
	return n
}

// plainIsNode: are a node's numbers and addresses right?
func plainIsNode(g api.Geometry, n api.Inode) bool {
	for _, address := range n.Addrs {
		if address < 0 || address > greatest(g) {
			return false
		}
	}
	return (n.Kind == 1 || n.Kind == 2) && n.Links >= 1 && n.Links <= 65535 && n.Size >= 0 && n.Size <= 46368 && len(n.Addrs) <= plainBlocks(n.Size)
}

// plainRight: is a list right?
func plainRight(g api.Geometry, list []api.Inode) bool {
	if !plainIsGeo(g) || len(list) < 1 || len(list) > 56 || list[0].Ino != 1 || list[0].Kind != 2 {
		return false
	}
	for i, n := range list {
		if i > 0 && n.Ino <= list[i-1].Ino || n.Ino > 56 || !plainIsNode(g, n) {
			return false
		}
	}
	return true
}

// low: a number's bytes, the lowest one first.
func low(n, width int) []byte {
	var b []byte
	for range width {
		b = append(b, byte(n%256))
		n /= 256
	}
	return b
}

// twos: numbers of two bytes each, one behind the other, and noughts behind them.
func twos(list ...int) []byte {
	var b []byte
	for _, n := range list {
		b = append(b, low(n, 2)...)
	}
	return padded(b)
}

// padded: bytes with noughts behind them, 56 in all.
func padded(b []byte) []byte {
	return append(b, make([]byte, 56-len(b))...)
}

// rowOf: the 28 addresses of a node's blocks from one on, and whether one of them isn't 0.
func rowOf(n api.Inode, first int) ([]int, bool) {
	row, some := make([]int, 28), false
	for i := range row {
		if first+i < len(n.Addrs) && n.Addrs[first+i] != 0 {
			row[i], some = n.Addrs[first+i], true
		}
	}
	return row, some
}

// plainLay lays blocks, one behind the other: the one with the number i at at(i).
type plainLay struct {
	at  func(int) int
	out []api.Block
}

func (p *plainLay) lay(owner, index int, b []byte) int {
	p.out = append(p.out, api.Block{Owner: owner, Index: index, Data: b})
	return p.at(len(p.out) - 1)
}

// node lays a node's blocks, and answers where its record is.
func (p *plainLay) node(n api.Inode) int {
	single, double := 0, 0
	if row, some := rowOf(n, 16); some {
		single = p.lay(n.Ino, 1000, twos(row...))
	}
	many, any := make([]int, 28), false
	for i := range many {
		if row, some := rowOf(n, 44+28*i); some {
			many[i], any = p.lay(n.Ino, 1001+i, twos(row...)), true
		}
	}
	if any {
		double = p.lay(n.Ino, 1100, twos(many...))
	}
	own, _ := rowOf(n, 0)
	record := slices.Concat(low(n.Kind, 1), low(n.Links, 2), low(n.Size, 4), twos(own[:16]...)[:32], low(single, 2), low(double, 2))
	return p.lay(n.Ino, 999, padded(record))
}

// plainBuild: the blocks of a list that is right.
func plainBuild(list []api.Inode, at func(int) int) []api.Block {
	p := &plainLay{at: at}
	records := make([]int, 56)
	for _, n := range list {
		records[n.Ino-1] = p.node(n)
	}
	one := p.lay(0, 1, twos(records[:28]...))
	two := p.lay(0, 2, twos(records[28:]...))
	p.lay(0, 0, twos(21074, one, two))
	return p.out
}

// plainCount: how many blocks a list has; 0, if it isn't right.
func plainCount(g api.Geometry, list []api.Inode) int {
	if !plainRight(g, list) {
		return 0
	}
	return len(plainBuild(list, func(int) int { return 0 }))
}

// shortened: a list without the noughts at its nodes' addresses' ends.
func shortened(list []api.Inode) []api.Inode {
	out := copied(list)
	for i, n := range out {
		for len(n.Addrs) > 0 && n.Addrs[len(n.Addrs)-1] == 0 {
			n.Addrs = n.Addrs[:len(n.Addrs)-1]
		}
		out[i] = n
	}
	return out
}

// sameBlocks: are these the same ones?
func sameBlocks(a, b []api.Block) bool {
	return slices.EqualFunc(a, b, func(x, y api.Block) bool {
		return x.Owner == y.Owner && x.Index == y.Index && bytes.Equal(x.Data, y.Data)
	})
}

// sameList: are these the same nodes?
func sameList(a, b []api.Inode) bool {
	return slices.EqualFunc(a, b, func(x, y api.Inode) bool {
		return x.Ino == y.Ino && x.Kind == y.Kind && x.Links == y.Links && x.Size == y.Size && slices.Equal(x.Addrs, y.Addrs)
	})
}

// noList: this list isn't right, and so has no blocks.
func noList(t *testing.T, g api.Geometry, list []api.Inode) {
	t.Helper()
	if Right(g, list) || Count(g, list) != 0 {
		t.Errorf("%v: right is %v: %v, blocks %d", g, short(list), Right(g, list), Count(g, list))
	}
	for _, n := range []int{0, 3, 4, 5, len(list) + 3} {
		if blocks, ok := Build(g, list, from(1, n+1)); ok || len(blocks) > 0 {
			t.Errorf("%v: blocks of %v: %d, %v", g, short(list), len(blocks), ok)
		}
	}
}

// isList: this list is right, and has these blocks wherever they are.
func isList(t *testing.T, g api.Geometry, list []api.Inode) {
	t.Helper()
	n := plainCount(g, list)
	if !Right(g, list) || Count(g, list) != n || n == 0 {
		t.Errorf("%v: right is %v: %v, blocks %d, not %d", g, short(list), Right(g, list), Count(g, list), n)
	}
	most := greatest(g)
	areBlocks(t, g, list, from(1, n+1))
	var back []int
	for i := range n {
		back = append(back, most-i*7%most)
	}
	areBlocks(t, g, list, back)
}

// holds: a list is right, or isn't.
func holds(t *testing.T, g api.Geometry, list []api.Inode) {
	t.Helper()
	if plainRight(g, list) {
		isList(t, g, list)
	} else {
		noList(t, g, list)
	}
}

// areBlocks: these are the list's blocks at these addresses, and are none, if one of these is none.
func areBlocks(t *testing.T, g api.Geometry, list []api.Inode, at []int) {
	t.Helper()
	blocks, ok := Build(g, list, at)
	if slices.ContainsFunc(at, func(a int) bool { return a < 1 || a > greatest(g) }) {
		if ok || len(blocks) > 0 {
			t.Errorf("%v: blocks at %v: %d, %v", g, at, len(blocks), ok)
		}
		return
	}
	if want := plainBuild(list, func(i int) int { return at[i] }); !ok || !sameBlocks(blocks, want) {
		t.Errorf("%v: the blocks of %v at %v are %v, %v, not %v", g, short(list), at, blocks, ok, want)
	}
}

// short: a list's first nodes, with their first addresses, to be told.
func short(list []api.Inode) []api.Inode {
	out := slices.Clone(list[:min(len(list), 4)])
	for i, n := range out {
		out[i].Addrs = n.Addrs[:min(len(n.Addrs), 20)]
	}
	return out
}

func TestExample(t *testing.T) {
	for _, g := range shapes() {
		list := []api.Inode{alone()}
		if !Right(g, list) || Count(g, list) != 4 {
			t.Error(g, Right(g, list), Count(g, list))
		}
		blocks, ok := Build(g, list, []int{7, 5, 9, 2})
		want := []api.Block{
			{Owner: 1, Index: 999, Data: padded([]byte{2, 2, 0})},
			{Owner: 0, Index: 1, Data: padded([]byte{7})},
			{Owner: 0, Index: 2, Data: make([]byte, 56)},
			{Owner: 0, Index: 0, Data: padded([]byte{82, 82, 5, 0, 9, 0})},
		}
		if !ok || !sameBlocks(blocks, want) {
			t.Error(g, blocks, ok)
		}
	}
}

// The numbers of layer 16 are the limits of the document.
func TestLimits(t *testing.T) {
	if api.MaxNodes != 56 || api.MaxBlocks != 828 || api.MaxSize != 46368 || api.Direct != 16 || api.Pointers != 28 || api.Payload != 56 {
		t.Error(api.MaxNodes, api.MaxBlocks, api.MaxSize, api.Direct, api.Pointers, api.Payload)
	}
	if api.KFile != 1 || api.KDir != 2 || api.ErrCorrupt != 15 || common != 3 {
		t.Error(api.KFile, api.KDir, api.ErrCorrupt, common)
	}
}

// Many callers at the same time: each has its own answers.
func TestAtTheSameTime(t *testing.T) {
	done := make(chan bool)
	g := wide()
	for worker := range 8 {
		go func() {
			ok := true
			list := withRoot(only(worker+2, 100*worker+10, worker+1), only(40+worker, 800, 9))
			for round := range 40 {
				at := from(1+worker*100+round, 1+worker*100+round+Count(g, list))
				blocks, is := Build(g, list, at)
				ok = ok && is && sameBlocks(blocks, plainBuild(list, func(i int) int { return at[i] }))
				d := diskOf(blocks, at)
				got, read, err := Load(g, d, at[len(at)-1])
				ok = ok && err == api.OK && sameList(got, list) && len(read) == len(at)
				d.wrong = map[int]api.Errno{read[worker]: api.Errno(worker + 50)}
				_, _, err = Load(g, d, at[len(at)-1])
				ok = ok && err == api.Errno(worker+50)
			}
			done <- ok
		}()
	}
	for range 8 {
		if !<-done {
			t.Error("an answer is another caller's")
		}
	}
}
