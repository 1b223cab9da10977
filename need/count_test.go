package need

import (
	"math"
	"slices"
	"testing"

	"moraine/api"
	"moraine/tree"
)

// needsPlainly holds what Data and More answer against the plainest way.
func needsPlainly(t *testing.T, x api.Tree) {
	t.Helper()
	needs(t, x, plainData(x), plainMore(x))
}

// A root alone: its record, two charts, the root's block.
func TestRootAloneNeeds(t *testing.T) {
	needs(t, tree.New(), 0, 4)
	needs(t, nodes(dir(2)), 0, 4)
}

// A file of each number of blocks, and no byte of it 0: the entry is one block of data more.
func TestFilesNeed(t *testing.T) {
	for blocks := range 829 {
		data, more := 1+blocks, 5
		if blocks > 16 {
			more++
		}
		if blocks > 44 {
			more += 1 + (blocks-44+27)/28
		}
		needs(t, holding(filled(56*blocks)), data, more)
		if blocks > 0 {
			needs(t, holding(filled(56*blocks-55)), data, more)
		}
	}
	needs(t, holding(filled(46368)), 829, 35)
}

// A file of noughts, of each size: none of its blocks is there.
func TestFilesOfNoughtsNeed(t *testing.T) {
	for _, n := range sizes() {
		needs(t, holding(noughts(n)), 1, 5)
	}
	needs(t, holding(slices.Repeat([][]byte{noughts(46368)}, 14)...), 1, 18)
}

// A file of one block that is there, wherever it is.
func TestOneBlockNeeds(t *testing.T) {
	for k := range 828 {
		more := 5
		if k >= 16 {
			more = 6
		}
		if k >= 44 {
			more = 7
		}
		needs(t, holding(with(k)), 2, more)
		needs(t, holding(append(with(k), noughts(46368-57*k%56)...)), 2, more)
	}
}

// Files with some blocks: pointers' blocks are counted for each of them, not for all together.
func TestBlocksOfFilesNeed(t *testing.T) {
	needs(t, holding(with(15), with(16)), 3, 7)
	needs(t, holding(with(16), with(16)), 3, 8)
	needs(t, holding(with(16, 43), with(44)), 4, 9)
	needs(t, holding(with(44), with(44), with(44)), 4, 13)
	needs(t, holding(with(0, 16, 44, 72, 827)), 6, 10)
	needs(t, holding(with(0, 16, 44, 72, 827), nil, with(0), with(827, 16)), 9, 16)
	needs(t, holding(with(16), with(44), with(72), with(100)), 5, 15)
}

// Directories of each number of entries, with names of each length: their bytes are data.
func TestDirsNeed(t *testing.T) {
	for n := range 65 {
		for length := 1; length <= 12; length++ {
			data, more := (n*(3+length)+55)/56, 4
			// 64 names of 12 bytes come to 960: more than 16 blocks.
			if data > 16 {
				more++
			}
			needs(t, nodes(dir(2, entries(n, length)...)), data, more)
		}
	}
	if x := nodes(dir(2, entries(64, 12)...)); Data(x) != 18 || More(x) != 5 {
		t.Error(Data(x), More(x))
	}
}

// Right trees of many nodes.
func TestManyNodesNeed(t *testing.T) {
	needs(t, holding(slices.Repeat([][]byte{nil}, 14)...), 1, 18)
	needs(t, holding(slices.Repeat([][]byte{nil}, 15)...), 2, 19)
	needs(t, holding(slices.Repeat([][]byte{nil}, 55)...), 4, 59)
	needs(t, holding(slices.Repeat([][]byte{filled(1)}, 55)...), 59, 59)
	needs(t, holding(slices.Repeat([][]byte{filled(46368)}, 55)...), 4+55*828, 59+55*30)
	needs(t, holding(slices.Repeat([][]byte{with(827)}, 55)...), 59, 59+110)
	chain := make([]api.Node, 56)
	for i := range chain {
		chain[i] = dir(3, to("n", i+1))
	}
	chain[55] = dir(2)
	if !tree.Right(nodes(chain...)) {
		t.Error("not right")
	}
	needs(t, nodes(chain...), 55, 59)
	// A file with many entries is one node: its blocks are counted once.
	needs(t, nodes(dir(2, to("a", 1), to("b", 1), to("c", 1)), api.Node{Kind: api.KFile, Links: 3, Data: filled(100)}), 3, 5)
}

// What operations make of a tree is counted as it is then.
func TestNeedsBehindOperations(t *testing.T) {
	x := tree.New()
	for _, c := range []struct {
		o          api.Op
		data, more int
	}{
		{api.Op{Kind: api.OpMkdir, Path: "/d"}, 1, 5},
		{api.Op{Kind: api.OpCreate, Path: "/d/f"}, 2, 6},
		{api.Op{Kind: api.OpWrite, Path: "/d/f", Data: filled(57)}, 4, 6},
		{api.Op{Kind: api.OpWrite, Path: "/d/f", At: 46367, Data: filled(1)}, 5, 8},
		{api.Op{Kind: api.OpWrite, Path: "/d/f", At: 56 * 20, Data: filled(56)}, 6, 9},
		{api.Op{Kind: api.OpLink, Path: "/d/f", To: "/g"}, 6, 9},
		{api.Op{Kind: api.OpWrite, Path: "/g", Data: noughts(57)}, 4, 9},
		{api.Op{Kind: api.OpTrunc, Path: "/g", N: 56 * 20}, 2, 6},
		{api.Op{Kind: api.OpTrunc, Path: "/g", N: 46368}, 2, 6},
		{api.Op{Kind: api.OpUnlink, Path: "/d/f"}, 1, 6},
		{api.Op{Kind: api.OpRmdir, Path: "/d"}, 1, 5},
		{api.Op{Kind: api.OpUnlink, Path: "/g"}, 0, 4},
	} {
		var answer api.Result
		x, answer = tree.Do(x, c.o)
		if answer.Err != api.OK {
			t.Fatal(c.o.Kind, answer.Err)
		}
		needs(t, x, c.data, c.more)
	}
}

// noTrees are trees that aren't right, each with few blocks.
func noTrees() []api.Tree {
	list := []api.Tree{
		{}, nodes(file(nil)), nodes(file([]byte("x"))), nodes(dir(1)), nodes(dir(3)), nodes(dir(0)), nodes(dir(2), dir(2)), nodes(dir(2), file(nil)), nodes(dir(2, to("a", 1))), nodes(dir(2, to("a", 0))),
		nodes(api.Node{Kind: api.KDir, Links: 2, Data: []byte("x")}), nodes(dir(2, to("a", 2)), file(nil), file(nil)), nodes(dir(2, to("a", 2), to("b", 1)), file(nil), file(nil)), nodes(dir(2, to("b", 1), to("a", 2)), file(nil), file(nil)),
		nodes(dir(2, to("a", 1), to("b", 1)), file(nil)), nodes(dir(2, to("a", 1)), api.Node{Kind: api.KFile, Links: 1, Entries: []api.Entry{to("a", 1)}}), nodes(dir(3, to("a", 1)), dir(3, to("a", 1))), nodes(dir(4, to("a", 1), to("b", 1)), dir(2)), nodes(dir(2, to("a", 1)), dir(2)),
		holding(noughts(46369)), holding(noughts(1 << 20)), nodes(slices.Repeat([]api.Node{dir(2)}, 56)...), holding(slices.Repeat([][]byte{nil}, 56)...), holding(slices.Repeat([][]byte{nil}, 64)...), nodes(make([]api.Node, 1)...), nodes(make([]api.Node, 56)...), nodes(make([]api.Node, 300)...),
	}
	for _, kind := range kinds() {
		list = append(list, nodes(strange(kind, nil)), nodes(dir(2, to("a", 1)), strange(kind, nil)), nodes(dir(2, to("a", 1)), strange(kind, []byte("x"))), nodes(api.Node{Kind: kind, Links: 2}))
	}
	for _, n := range noDirs() {
		if len(n.Entries) < 100 {
			list = append(list, nodes(n))
		}
	}
	for _, links := range []int{0, 2, -1, 201, math.MaxInt, math.MinInt} {
		list = append(list, nodes(dir(2, to("a", 1)), api.Node{Kind: api.KFile, Links: links}))
	}
	return list
}

// Trees that aren't right are counted as well: all nodes, each as what it is.
func TestWrongTreesNeed(t *testing.T) {
	for _, x := range noTrees() {
		if tree.Right(x) {
			t.Errorf("%v: right", shortTree(x))
		}
		needsPlainly(t, x)
	}
	needs(t, api.Tree{}, 0, 3)
	needs(t, api.Tree{Nodes: []api.Node{}}, 0, 3)
	needs(t, nodes(make([]api.Node, 300)...), 0, 303)
	needs(t, nodes(file(filled(57))), 2, 4)
	// Nodes that no entry leads to count, too, and entries that lead nowhere.
	needs(t, nodes(dir(2), file(with(44)), file(filled(1))), 2, 8)
	needs(t, nodes(dir(2, to("a", 9))), 1, 4)
	needs(t, nodes(dir(2, to("a", 55))), 1, 4)
	// What can't be encoded is nothing.
	needs(t, nodes(dir(2, to("a", 56))), 0, 4)
	needs(t, nodes(dir(2, entries(65, 12)...)), 0, 4)
	needs(t, nodes(dir(2, to("b", 1), to("a", 1)), file(filled(1))), 1, 5)
	for _, kind := range kinds() {
		needs(t, nodes(strange(kind, filled(56*44+1))), 45, 7)
		needs(t, nodes(api.Node{Kind: kind, Entries: entries(3, 3)}), 0, 4)
	}
	needs(t, nodes(api.Node{Kind: api.KDir, Data: filled(500)}), 0, 4)
	needs(t, nodes(api.Node{Kind: api.KFile, Entries: entries(64, 12)}), 0, 4)
}

// A file of more than MaxSize bytes: its blocks are there, but no pointers' block tells those behind the last one.
func TestTooLongFilesNeed(t *testing.T) {
	needs(t, nodes(file(filled(46369))), 829, 34)
	needs(t, nodes(file(filled(56*1000))), 1000, 34)
	needs(t, nodes(file(with(828))), 1, 4)
	needs(t, nodes(file(with(827, 828))), 2, 6)
	needs(t, nodes(file(with(16, 1<<12, 1<<14))), 3, 5)
}

// Many nodes that have one list of bytes: each counts by itself.
func TestSharedBytesNeed(t *testing.T) {
	b := with(0, 20, 50)
	needs(t, nodes(slices.Repeat([]api.Node{file(b)}, 2000)...), 6000, 3+2000*4)
	needs(t, holding(b, b[:56], b[:57], b), 3+1+1+3+1, 3+5+3+3)
}
