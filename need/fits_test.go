package need

import (
	"slices"
	"testing"

	"moraine/api"
	"moraine/tree"
)

// ofData: a right tree of just so many blocks of data, 1 or more: the root's, which has an empty file at least, and all others in as few files as can have them.
func ofData(n int) api.Tree {
	files := [][]byte{nil}
	for left := n - 1; left > 0; left -= 828 {
		files = append(files, filled(56*min(left, 828)))
	}
	return holding(files...)
}

// plan has, of each file of a tree, which of its blocks are there.
type plan [][]int

// tree: the right tree of a plan.
func (p plan) tree() api.Tree {
	var files [][]byte
	for _, blocks := range p {
		files = append(files, with(blocks...))
	}
	return holding(files...)
}

// data: how many blocks of data the tree of a plan has, the root's entries among them, of which 14 are a block.
func (p plan) data() int {
	n := (len(p) + 13) / 14
	for _, blocks := range p {
		n += len(blocks)
	}
	return n
}

// ofMore: a plan of just so many other blocks, 4 or more, with few blocks of data.
func ofMore(n int) plan {
	var p plan
	left := n - 4
	for left > 0 && len(p) < 55 {
		// A file comes to its record, or to that and pointers' blocks: one of the blocks 16 to 43, or two of those from 44 on.
		file := [][]int{nil, {16}, {44}}[min(left, 3)-1]
		p, left = append(p, file), left-min(left, 3)
	}
	for i := 0; left > 0; i++ {
		for k := 72; k < 828 && left > 0; k += 28 {
			p[i], left = append(p[i], k), left-1
		}
	}
	return p
}

// and: the same plan with further blocks of data, for which no other block is needed.
func (p plan) and(data int) plan {
	out := slices.Clone(p)
	for i := range out {
		for k := range min(data, 16) {
			out[i], data = append(slices.Clip(out[i]), k), data-1
		}
	}
	return out
}

// The plans make what they are taken for.
func TestPlans(t *testing.T) {
	for n := 4; n <= 540; n += 1 + n/20 {
		p := ofMore(n)
		x := p.tree()
		if !tree.Right(x) || plainMore(x) != n || plainData(x) != p.data() {
			t.Errorf("%d: %d, %d, not %d", n, plainMore(x), plainData(x), p.data())
		}
		if n < 5 {
			continue
		}
		if x := p.and(7).tree(); !tree.Right(x) || plainMore(x) != n || plainData(x) != p.data()+7 {
			t.Errorf("%d: %d, %d, not %d", n, plainMore(x), plainData(x), p.data()+7)
		}
	}
	for n := 1; n <= 900; n += 1 + n/20 {
		if x := ofData(n); !tree.Right(x) || plainData(x) != n {
			t.Errorf("%d: %d", n, plainData(x))
		}
	}
}

// A root alone fits each right geometry, and none that isn't.
func TestRootAloneFits(t *testing.T) {
	for _, g := range geometries() {
		fits(t, true, g, tree.New())
	}
	for _, g := range noGeometries() {
		fits(t, false, g, tree.New())
	}
	for disks := 1; disks < 19; disks++ {
		for rows := -1; rows < 7; rows++ {
			for segs := 9; segs < 68; segs++ {
				g := api.Geometry{Disks: disks, Rows: rows, Segs: segs}
				fits(t, plainFits(g, tree.New()), g, tree.New())
			}
		}
	}
}

// Just PD blocks of data fit, and not one more.
func TestJustPD(t *testing.T) {
	trees := make(map[int]api.Tree)
	for _, g := range geometries() {
		pd, qd := plainCaps(g)
		for n := pd - 1; n <= pd+1; n++ {
			x, has := trees[n]
			if !has {
				x = ofData(n)
				trees[n] = x
			}
			if plainMore(x) > qd {
				t.Fatalf("%v: %d other blocks", g, plainMore(x))
			}
			fits(t, n <= pd, g, x)
		}
	}
}

// Just QD other blocks fit, and not one more.
func TestJustQD(t *testing.T) {
	plans, trees := make(map[int]plan), make(map[int]api.Tree)
	for _, g := range geometries() {
		pd, qd := plainCaps(g)
		for n := qd - 1; n <= qd+1; n++ {
			x, has := trees[n]
			if !has {
				plans[n] = ofMore(n)
				x = plans[n].tree()
				trees[n] = x
			}
			if plans[n].data() > pd {
				t.Fatalf("%v: %d blocks of data", g, plans[n].data())
			}
			fits(t, n <= qd, g, x)
		}
	}
}

// Just PD and just QD at once fit; one more of either doesn't, nor one more of both.
func TestJustBoth(t *testing.T) {
	for _, g := range []api.Geometry{small(), large(), {Disks: 3, Rows: 1, Segs: 56}, {Disks: 6, Rows: 1, Segs: 12}, {Disks: 4, Rows: 2, Segs: 16}, {Disks: 16, Rows: 4, Segs: 12}, {Disks: 16, Rows: 4, Segs: 16}, {Disks: 3, Rows: 1, Segs: 64}, {Disks: 5, Rows: 3, Segs: 63}, {Disks: 16, Rows: 4, Segs: 63}} {
		pd, qd := plainCaps(g)
		for more := qd - 1; more <= qd+1; more++ {
			p := ofMore(more)
			for data := pd - 1; data <= pd+1; data++ {
				x := p.and(data - p.data()).tree()
				if plainData(x) != data || plainMore(x) != more {
					t.Fatalf("%v: %d, %d, not %d, %d", g, plainData(x), plainMore(x), data, more)
				}
				fits(t, data <= pd && more <= qd, g, x)
			}
		}
	}
}

// By hand, of geometries with little room and with much.
func TestFitsByHand(t *testing.T) {
	g := small()
	fits(t, true, g, holding(filled(56*9)))
	fits(t, false, g, holding(filled(56*9+1)))
	fits(t, true, g, holding(noughts(46368)))
	fits(t, true, g, holding(slices.Repeat([][]byte{nil}, 6)...))
	fits(t, false, g, holding(slices.Repeat([][]byte{nil}, 7)...))
	fits(t, true, g, holding(with(16, 44, 72, 827)))
	fits(t, false, g, holding(with(16, 44, 72, 800, 799)))
	fits(t, true, g, holding(with(16), with(44), nil))
	fits(t, false, g, holding(with(16), with(44), nil, nil))
	fits(t, false, large(), holding(filled(46368)))
	fits(t, true, large(), holding(filled(46368-3*56)))
	fits(t, true, api.Geometry{Disks: 16, Rows: 4, Segs: 63}, holding(filled(46368), filled(56*56)))
	fits(t, false, api.Geometry{Disks: 16, Rows: 4, Segs: 63}, holding(filled(46368), filled(56*56+1)))
	fits(t, true, large(), holding(slices.Repeat([][]byte{filled(14 * 56)}, 55)...))
	fits(t, false, large(), holding(slices.Repeat([][]byte{filled(15 * 56)}, 55)...))
}

// A directory's entries count, too.
func TestDirsFit(t *testing.T) {
	g := small()
	// 37 entries of 15 bytes are 555 bytes: 10 blocks; one more, and it is 11.
	for n := range 65 {
		links := nodes(dir(2, entries(n, 12)...), api.Node{Kind: api.KFile, Links: n})
		for i := range links.Nodes[0].Entries {
			links.Nodes[0].Entries[i].Ino = 1
		}
		if n == 0 {
			links = tree.New()
		}
		if !tree.Right(links) {
			t.Errorf("%d: not right", n)
		}
		fits(t, n <= 37, g, links)
	}
}

// Trees that aren't right fit nowhere, however few blocks they have.
func TestWrongTreesDoNotFit(t *testing.T) {
	for _, x := range noTrees() {
		for _, g := range []api.Geometry{small(), large(), {Disks: 3, Rows: 1, Segs: 56}, {Disks: 4, Rows: 2, Segs: 16}} {
			fits(t, false, g, x)
		}
		for _, g := range noGeometries() {
			fits(t, false, g, x)
		}
	}
	fits(t, false, large(), api.Tree{})
	fits(t, false, large(), holding(noughts(46369)))
}

// Nothing fits a geometry that isn't right, whatever its numbers come to.
func TestWrongGeometriesFitNothing(t *testing.T) {
	for _, g := range noGeometries() {
		for _, x := range []api.Tree{holding(), holding(nil), holding(filled(9)), holding(with(16, 44)), holding(filled(46368))} {
			fits(t, false, g, x)
		}
	}
}
