package need

import (
	"bytes"
	"math"
	"slices"
	"strings"
	"testing"

	"moraine/api"
	"moraine/tree"
)

// filled are so many bytes, none of them 0.
func filled(n int) []byte {
	return bytes.Repeat([]byte("x"), n)
}

// noughts are so many bytes, all of them 0.
func noughts(n int) []byte {
	return make([]byte, n)
}

// with: bytes of which just these blocks are there, each by one byte; the last of them is the last byte.
func with(blocks ...int) []byte {
	var b []byte
	for _, k := range blocks {
		at := 56*k + k%56
		if at >= len(b) {
			b = append(b, noughts(at+1-len(b))...)
		}
		b[at] = byte(k%255 + 1)
	}
	return b
}

// file, dir and strange are nodes: a file, a directory, one that is neither.
func file(data []byte) api.Node {
	return api.Node{Kind: api.KFile, Links: 1, Data: data}
}

func dir(links int, entries ...api.Entry) api.Node {
	return api.Node{Kind: api.KDir, Links: links, Entries: entries}
}

func strange(kind int, data []byte) api.Node {
	return api.Node{Kind: kind, Links: 1, Data: data}
}

// to is an entry.
func to(name string, place int) api.Entry {
	return api.Entry{Name: name, Ino: place}
}

// nodes is a tree of nodes.
func nodes(list ...api.Node) api.Tree {
	return api.Tree{Nodes: list}
}

// rising are so many texts of a length that rise, 80 at most.
func rising(n, length int) []string {
	var out []string
	for i := range n {
		out = append(out, string(rune('0'+i))+strings.Repeat("n", length-1))
	}
	return out
}

// entries are so many, with names of a length that rise, to the places from 1 to 55, one behind the other.
func entries(n, length int) []api.Entry {
	var out []api.Entry
	for i, name := range rising(n, length) {
		out = append(out, to(name, i%55+1))
	}
	return out
}

// holding: a right tree of a root and a file for each of these bytes. An entry has 4 bytes: 14 of them are a block.
func holding(files ...[]byte) api.Tree {
	list := []api.Node{dir(2, entries(len(files), 1)...)}
	for _, b := range files {
		list = append(list, file(b))
	}
	return nodes(list...)
}

// kinds are numbers that are neither a file's nor a directory's.
func kinds() []int {
	return []int{0, 3, 4, -1, -2, 257, 258, 1<<32 + 1, 1<<32 + 2, math.MaxInt, math.MinInt}
}

// noBlocks are numbers that no block has of which a pointers' block tells; some are alike with such ones in their last bytes.
func noBlocks() []int {
	return []int{0, 1, 14, 15, 828, 829, 855, 856, 1000, 65536, 65536 + 16, 65536 + 44, 1 << 31, 1<<31 + 16, 1 << 32, 1<<32 + 16, 1<<32 + 43, 1<<32 + 44, 1<<32 + 827, 1 << 62, 1<<62 + 44, math.MaxInt - 1, math.MaxInt, -1, -12, -16, -28, -44, -72, -827, -828, -1<<32 + 16, -1<<32 + 44, -1 << 62, math.MinInt + 16, math.MinInt + 1, math.MinInt}
}

// from: the numbers from one on, without another one.
func from(first, end int) []int {
	var out []int
	for k := first; k < end; k++ {
		out = append(out, k)
	}
	return out
}

// plainName: is it a name, by the plainest means?
func plainName(s string) bool {
	return len(s) >= 1 && len(s) <= 12 && s != "." && s != ".." && !strings.ContainsAny(s, "/\x00")
}

// plainSays: what Says answers, by the plainest means: byte by byte, unless something is wrong with an entry or the one ahead of it.
func plainSays(n api.Node) []byte {
	if n.Kind != 2 {
		return n.Data
	}
	var b []byte
	for i, e := range n.Entries {
		if i == 64 || !plainName(e.Name) || e.Ino < 0 || e.Ino > 55 || i > 0 && strings.Compare(n.Entries[i-1].Name, e.Name) >= 0 {
			return nil
		}
		b = append(b, byte(e.Ino+1), 0, byte(len(e.Name)))
		b = append(b, e.Name...)
	}
	return b
}

// plainThere: what There answers, by the plainest means: each byte that isn't 0 tells its block.
func plainThere(b []byte) []int {
	var out []int
	for i, x := range b {
		if x != 0 && (len(out) == 0 || out[len(out)-1] != i/56) {
			out = append(out, i/56)
		}
	}
	return out
}

// plainPointing: what Pointing answers, by the plainest means: of each pointers' block, is one of its blocks in the list?
func plainPointing(there []int) int {
	n := 0
	count := func(first, end int) {
		if slices.ContainsFunc(there, func(k int) bool { return k >= first && k < end }) {
			n++
		}
	}
	count(16, 44)
	count(44, 828)
	for first := 44; first < 828; first += 28 {
		count(first, first+28)
	}
	return n
}

// plainData: what Data answers, by the plainest means.
func plainData(t api.Tree) int {
	n := 0
	for _, x := range t.Nodes {
		n += len(plainThere(plainSays(x)))
	}
	return n
}

// plainMore: what More answers, by the plainest means.
func plainMore(t api.Tree) int {
	n := 3
	for _, x := range t.Nodes {
		n += 1 + plainPointing(plainThere(plainSays(x)))
	}
	return n
}

// plainCaps: PD and QD of a geometry, by the plainest means; noughts, if it isn't right.
func plainCaps(g api.Geometry) (int, int) {
	if g.Disks < 3 || g.Disks > 16 || g.Rows < 1 || g.Rows > 4 || g.Segs < 12 || g.Segs > 64 {
		return 0, 0
	}
	d := g.Rows*(g.Disks-1) - 1
	q := 1 + g.Segs/8
	if q*d < 8 {
		return 0, 0
	}
	return (g.Segs - 2 - 2*q) / 3 * d, q * d
}

// plainFits: what Fits answers, by the plainest means.
func plainFits(g api.Geometry, t api.Tree) bool {
	data, more := plainCaps(g)
	return more > 0 && tree.Right(t) && plainData(t) <= data && plainMore(t) <= more
}

// geometries are all right ones.
func geometries() []api.Geometry {
	var out []api.Geometry
	for disks := 3; disks <= 16; disks++ {
		for rows := 1; rows <= 4; rows++ {
			for segs := 12; segs <= 64; segs++ {
				g := api.Geometry{Disks: disks, Rows: rows, Segs: segs}
				if _, more := plainCaps(g); more > 0 {
					out = append(out, g)
				}
			}
		}
	}
	return out
}

// noGeometries aren't right: each number beside its bounds and far away, and ones with too few places.
func noGeometries() []api.Geometry {
	return []api.Geometry{
		{}, {Disks: 2, Rows: 4, Segs: 64}, {Disks: 17, Rows: 2, Segs: 16}, {Disks: 4, Rows: 0, Segs: 16}, {Disks: 4, Rows: 5, Segs: 16}, {Disks: 4, Rows: 2, Segs: 11}, {Disks: 4, Rows: 2, Segs: 65}, {Disks: 3, Rows: 1, Segs: 55}, {Disks: 3, Rows: 1, Segs: 12}, {Disks: 5, Rows: 1, Segs: 15}, {Disks: 3, Rows: 2, Segs: 15},
		{Disks: -4, Rows: -2, Segs: -16}, {Disks: 4, Rows: 2, Segs: -16}, {Disks: math.MaxInt, Rows: 2, Segs: 16}, {Disks: 4, Rows: math.MaxInt, Segs: 16}, {Disks: 4, Rows: 2, Segs: math.MaxInt}, {Disks: math.MinInt, Rows: math.MinInt, Segs: math.MinInt}, {Disks: 4 + 1<<32, Rows: 2, Segs: 16}, {Disks: 4, Rows: 2 + 1<<32, Segs: 16}, {Disks: 4, Rows: 2, Segs: 16 + 1<<32},
	}
}

// small is a geometry of 12 segments of 5 places: there is room for 10 blocks of data and 10 others.
func small() api.Geometry {
	return api.Geometry{Disks: 3, Rows: 3, Segs: 12}
}

// large is the geometry of the most disks, rows and segments: there is room for 826 blocks of data and 531 others. (Of one segment less it is 885, and 472.)
func large() api.Geometry {
	return api.Geometry{Disks: 16, Rows: 4, Segs: 64}
}

// says holds what Says answers against the bytes that are wanted.
func says(t *testing.T, n api.Node, want []byte) {
	t.Helper()
	if got := Says(n); !bytes.Equal(got, want) {
		t.Errorf("Says(%v): %v, not %v", shortNode(n), short(got), short(want))
	}
}

// isThere holds what There answers against the blocks that are wanted.
func isThere(t *testing.T, b []byte, want ...int) {
	t.Helper()
	if got := There(b); !slices.Equal(got, want) {
		t.Errorf("There of %d bytes, %v: %v, not %v", len(b), short(b), short(got), short(want))
	}
}

// points holds what Pointing answers against what is wanted.
func points(t *testing.T, want int, there ...int) {
	t.Helper()
	if got := Pointing(there); got != want {
		t.Errorf("Pointing of %d numbers, %v: %d, not %d", len(there), short(there), got, want)
	}
}

// needs holds what Data and More answer against what is wanted.
func needs(t *testing.T, x api.Tree, data, more int) {
	t.Helper()
	if got := Data(x); got != data {
		t.Errorf("Data(%v): %d, not %d", shortTree(x), got, data)
	}
	if got := More(x); got != more {
		t.Errorf("More(%v): %d, not %d", shortTree(x), got, more)
	}
}

// fits holds what Fits answers against what is wanted.
func fits(t *testing.T, want bool, g api.Geometry, x api.Tree) {
	t.Helper()
	if got := Fits(g, x); got != want {
		t.Errorf("Fits(%v, %v): %v", g, shortTree(x), got)
	}
}

// short: a list, or its beginning.
func short[T any](list []T) []T {
	return list[:min(len(list), 12)]
}

// shortNode: a node, with the beginning of its lists.
func shortNode(n api.Node) api.Node {
	n.Data, n.Entries = short(n.Data), slices.Clone(short(n.Entries))
	for i, e := range n.Entries {
		n.Entries[i].Name = e.Name[:min(len(e.Name), 20)]
	}
	return n
}

// shortTree: a tree's first nodes.
func shortTree(x api.Tree) []api.Node {
	var out []api.Node
	for _, n := range x.Nodes[:min(len(x.Nodes), 4)] {
		out = append(out, shortNode(n))
	}
	return out
}

// The chapter's example.
func TestExample(t *testing.T) {
	b := noughts(100)
	b[99] = 1
	isThere(t, b, 1)
	isThere(t, Says(file(b)), 1)
	needs(t, holding(b), 2, 5)
}

// The document's example of the whole: a file of 800 noughts needs no block for its data.
func TestNoughtsNeedNoBlock(t *testing.T) {
	isThere(t, Says(file(noughts(800))))
	needs(t, holding(noughts(800)), 1, 5)
	needs(t, holding(nil), 1, 5)
	needs(t, holding(filled(800)), 16, 5)
}

// The builders make what they are taken for, and the plainest ways tell by themselves what the chapter says.
func TestPlainWays(t *testing.T) {
	if b := with(1, 3); len(b) != 172 || b[57] != 2 || b[171] != 4 || !slices.Equal(plainThere(b), []int{1, 3}) {
		t.Error(b)
	}
	if b := with(3, 1); !slices.Equal(plainThere(b), []int{1, 3}) {
		t.Error(b)
	}
	if b := plainSays(dir(2, to("ab", 2), to("b", 55))); !bytes.Equal(b, []byte{3, 0, 2, 'a', 'b', 56, 0, 1, 'b'}) {
		t.Error(b)
	}
	if b := plainSays(dir(2, to("b", 2), to("a", 1))); b != nil {
		t.Error(b)
	}
	if n := plainPointing([]int{16, 44, 71, 72, 827, 828, 15}); n != 5 {
		t.Error(n)
	}
	for _, x := range []api.Tree{tree.New(), holding(), holding(filled(5), nil), holding(slices.Repeat([][]byte{filled(3)}, 55)...)} {
		if !tree.Right(x) {
			t.Error(shortTree(x))
		}
	}
	if x := holding(with(50), filled(60)); plainData(x) != 4 || plainMore(x) != 8 {
		t.Error(plainData(x), plainMore(x))
	}
	if data, more := plainCaps(small()); data != 10 || more != 10 {
		t.Error(data, more)
	}
	if data, more := plainCaps(large()); data != 826 || more != 531 {
		t.Error(data, more)
	}
	if data, more := plainCaps(api.Geometry{Disks: 16, Rows: 4, Segs: 63}); data != 885 || more != 472 {
		t.Error(data, more)
	}
	for _, g := range noGeometries() {
		if _, more := plainCaps(g); more != 0 {
			t.Errorf("%v: right", g)
		}
	}
	if len(geometries()) < 2500 || !slices.Contains(geometries(), small()) || !slices.Contains(geometries(), large()) {
		t.Error(len(geometries()))
	}
}
