package store

import (
	"bytes"
	"testing"

	"moraine/api"
)

// refusesPut: a tree isn't taken, with this error, and all is as it was.
func refusesPut(t *testing.T, what string, s *Store, x api.Tree, want api.Errno) {
	t.Helper()
	before, _ := s.Tree()
	is(t, "Put, "+what, s.Put(x), want)
	holds(t, s, before)
	if !s.Room() {
		t.Errorf("Put, %s: what is there doesn't fit any more", what)
	}
}

// notRight are trees that aren't right.
func notRight() []api.Tree {
	dir, file := api.Node{Kind: api.KDir, Links: 2}, api.Node{Kind: api.KFile, Links: 1}
	root := api.Node{Kind: api.KDir, Links: 2, Entries: []api.Entry{{Name: "a", Ino: 1}}}
	other := func(change func(n *api.Node)) api.Node {
		n := file
		change(&n)
		return n
	}
	return []api.Tree{
		{}, {Nodes: []api.Node{file}}, {Nodes: []api.Node{dir, file}}, {Nodes: []api.Node{root}}, {Nodes: []api.Node{root, dir}}, {Nodes: []api.Node{root, {}}},
		{Nodes: []api.Node{{Kind: api.KDir, Links: 3}}}, {Nodes: []api.Node{{Kind: api.KDir, Links: 2, Data: []byte{1}}}},
		{Nodes: []api.Node{root, other(func(n *api.Node) { n.Links = 2 })}},
		{Nodes: []api.Node{root, other(func(n *api.Node) { n.Kind = 3 })}},
		{Nodes: []api.Node{root, other(func(n *api.Node) { n.Data = make([]byte, 46369) })}},
		{Nodes: []api.Node{root, other(func(n *api.Node) { n.Entries = root.Entries })}},
		{Nodes: []api.Node{{Kind: api.KDir, Links: 2, Entries: []api.Entry{{Name: "a/b", Ino: 1}}}, file}},
		{Nodes: []api.Node{{Kind: api.KDir, Links: 2, Entries: []api.Entry{{Name: "a", Ino: 1 << 40}}}, file}},
		{Nodes: []api.Node{{Kind: api.KDir, Links: 2, Entries: []api.Entry{{Name: "a", Ino: -1}}}, file}},
		{Nodes: append([]api.Node{root}, make([]api.Node, 60)...)},
	}
}

// A tree that isn't right: ErrCorrupt; what was there is there still, laid or not.
func TestPutOfATreeThatIsNotRight(t *testing.T) {
	s, r := formatted(t, small())
	for _, x := range notRight() {
		refusesPut(t, "of a tree that isn't right", s, x, api.ErrCorrupt)
	}
	is(t, "Put", s.Put(some(t, 4)), api.OK)
	for _, x := range notRight() {
		refusesPut(t, "of a tree that isn't right", s, x, api.ErrCorrupt)
	}
	is(t, "Lay", s.Lay(), api.OK)
	holds(t, mounts(t, r), some(t, 4))
}

// A tree that just fits is taken, whatever was there before; with one thing more, ErrFull.
func TestPutOfATreeThatJustFits(t *testing.T) {
	s, r := formatted(t, small())
	for i := range 4 {
		refusesPut(t, "a block of data too many", s, filled(t, 11, 5), api.ErrFull)
		refusesPut(t, "a block of data too many", s, filled(t, 11, 15), api.ErrFull)
		refusesPut(t, "a block of all else too many", s, filled(t, 2, 16), api.ErrFull)
		refusesPut(t, "a block of all else too many", s, filled(t, 10, 16), api.ErrFull)
		refusesPut(t, "far too much", s, filled(t, 700, 5), api.ErrFull)
		is(t, "Put", s.Put(filled(t, 10, 15)), api.OK)
		holds(t, s, filled(t, 10, 15))
		if i > 1 {
			is(t, "Lay", s.Lay(), api.OK)
			hasRoom(t, s)
		}
	}
	holds(t, mounts(t, r), filled(t, 10, 15))
	for _, g := range geometries() {
		p, q := caps(g)
		s, _ := formatted(t, g)
		more := min(15, q*places(g))
		refusesPut(t, "a block of data too many", s, filled(t, p*places(g)+1, more), api.ErrFull)
		for range 3 {
			lays(t, s, filled(t, p*places(g), more))
		}
	}
}

// caps: how many segments there may be for data, and for all else, by plain means.
func caps(g api.Geometry) (int, int) {
	q := 1 + g.Segs/8
	return (g.Segs - 2 - 2*q) / 3, q
}

// Pointers' blocks and each node count among all else.
func TestPutOfFilesWithPointersBlocks(t *testing.T) {
	// PD and QD are 10 each.
	g := api.Geometry{Disks: 3, Rows: 3, Segs: 12}
	for _, c := range []struct {
		at   []int
		fits bool
	}{
		{nil, true}, {[]int{0}, true}, {[]int{15}, true}, {[]int{16}, true}, {[]int{16, 43}, true}, {[]int{44}, true}, {[]int{16, 44}, true}, {[]int{16, 44, 71}, true},
		{[]int{44, 72}, true}, {[]int{16, 44, 72}, true}, {[]int{16, 44, 72, 100}, true}, {[]int{16, 44, 72, 100, 128}, false}, {[]int{44, 72, 100, 128}, true}, {[]int{44, 72, 100, 828 - 1, 700}, false},
		{[]int{16, 17, 18, 19, 20, 21, 22, 23, 24}, true}, {[]int{16, 17, 18, 19, 20, 21, 22, 23, 24, 25}, false},
	} {
		ops := []api.Op{{Kind: api.OpCreate, Path: "/a"}}
		for _, k := range c.at {
			ops = append(ops, api.Op{Kind: api.OpWrite, Path: "/a", At: 56*k + 55, Data: []byte{byte(k + 1)}})
		}
		x := grown(t, ops...)
		s, r := formatted(t, g)
		if !c.fits {
			refusesPut(t, "with too many pointers' blocks", s, x, api.ErrFull)
			continue
		}
		lays(t, s, x)
		again(t, r)
		holds(t, mounts(t, r), x)
	}
}

// Noughts need no blocks: files of nothing else, however long, and as many as there may be.
func TestPutOfNoughts(t *testing.T) {
	ops := []api.Op{}
	for i := range 10 {
		path := "/" + string(rune('a'+i))
		ops = append(ops, api.Op{Kind: api.OpCreate, Path: path}, api.Op{Kind: api.OpTrunc, Path: path, N: 46368 - i})
	}
	x := grown(t, ops...)
	s, r := stored(t, small(), x)
	// The root's entries alone have a block; there are 11 records, the charts and the root.
	uses(t, s, [2]int{1, 2}, [2]int{2, 3}, [2]int{3, 4}, [2]int{4, 5})
	holds(t, mounts(t, r), x)
}

// What was put isn't laid: it is gone with the store; till then it is there, whether there is power or not.
func TestPutAlone(t *testing.T) {
	s, r := stored(t, small(), some(t, 4))
	is(t, "Put", s.Put(some(t, 5)), api.OK)
	holds(t, s, some(t, 5))
	holds(t, mounts(t, r), some(t, 4))
	s = mounts(t, r)
	cutOff(t, r)
	refusesDead(t, s)
	is(t, "Put without power", s.Put(some(t, 6)), api.OK)
	holds(t, s, some(t, 6))
	is(t, "Put without power", s.Put(notRight()[0]), api.ErrCorrupt)
	is(t, "Put without power", s.Put(filled(t, 11, 5)), api.ErrFull)
	r.Restore(nil)
	is(t, "Lay", s.Lay(), api.OK)
	holds(t, mounts(t, r), some(t, 6))
}

// refusesDead: without power Tree answers ErrDead, of a tree that has blocks of data.
func refusesDead(t *testing.T, s *Store) {
	t.Helper()
	if x, err := s.Tree(); err != api.ErrDead || !none(x) {
		t.Errorf("Tree without power: %v, %v", x, err)
	}
}

// A block of a file can't be read any more: ErrIO, and no tree. What needs no block of the disks is told.
func TestTreeWithoutBlocks(t *testing.T) {
	for a := range 4 {
		for b := range a {
			s, r := stored(t, small(), filled(t, 10, 15))
			lose(t, r, a)
			holds(t, s, filled(t, 10, 15))
			lose(t, r, b)
			if x, err := s.Tree(); err != api.ErrIO || !none(x) {
				t.Errorf("without disks %d and %d: %v, %v", a, b, x, err)
			}
			if !s.Room() {
				t.Error("what is there doesn't fit any more")
			}
			is(t, "Put", s.Put(some(t, 3)), api.OK)
			holds(t, s, some(t, 3))
			cutOff(t, r)
			holds(t, s, some(t, 3))
		}
	}
	x := grown(t, api.Op{Kind: api.OpCreate, Path: "/a"}, api.Op{Kind: api.OpTrunc, Path: "/a", N: 800})
	s, r := stored(t, small(), x)
	lose(t, r, 0, 1)
	holds(t, s, x)
	cutOff(t, r)
	holds(t, s, x)
}

// Of a file only some blocks are new: those that aren't are read from where they are.
func TestTreeOfAFileThatIsChanged(t *testing.T) {
	s, r := stored(t, small(), filled(t, 5, 5))
	want := bytes.Repeat([]byte{5, 7}, 28*4)
	is(t, "Write", s.there[2].file.Write(60, []byte{1, 2, 3}), api.OK)
	copy(want[60:], []byte{1, 2, 3})
	x := grown(t, api.Op{Kind: api.OpCreate, Path: "/a"}, api.Op{Kind: api.OpWrite, Path: "/a", Data: want})
	holds(t, s, x)
	is(t, "Lay", s.Lay(), api.OK)
	// The one new block comes to a segment of its own; the old one has four left.
	uses(t, s, [2]int{0, 4}, [2]int{1, 2}, [2]int{3, 5})
	hasRoom(t, s)
	holds(t, s, x)
	again(t, r)
	holds(t, mounts(t, r), x)
}

// What is there may not fit, though nothing else is wrong: then there is no room; behind a Put there is again.
func TestRoom(t *testing.T) {
	s, _ := stored(t, small(), filled(t, 10, 15))
	f := s.there[2].file
	is(t, "Trunc", f.Trunc(56*9+1), api.OK)
	if !s.Room() {
		t.Error("noughts need room")
	}
	is(t, "Write", f.Write(56*9, []byte{1}), api.OK)
	if s.Room() {
		t.Error("11 blocks of data have room")
	}
	is(t, "Put", s.Put(filled(t, 10, 15)), api.OK)
	if !s.Room() {
		t.Error("a tree that just fits has no room")
	}
	is(t, "Write", s.there[3].file.Trunc(56*44), api.OK)
	is(t, "Write", s.there[2].file.Trunc(0), api.OK)
	if !s.Room() {
		t.Error("a file of noughts has no room")
	}
	is(t, "Write", s.there[3].file.Write(56*16, []byte{1}), api.OK)
	if s.Room() {
		t.Error("a pointers' block too many has room")
	}
}

// Data that lasts in many segments leaves no room for as much as in few.
func TestRoomBesideManySegments(t *testing.T) {
	for _, c := range []struct {
		data, others int
		fits         bool
	}{{5, 5, true}, {5, 10, true}, {10, 5, true}, {5, 15, false}, {10, 10, true}, {10, 11, false}, {10, 15, false}, {11, 5, false}} {
		x := madeOf(t, small(), filled(t, 9, 5))
		x.spread(9, 0)
		s := mounts(t, x.rack())
		// 9 segments are in use; of the 7 others the list takes 1 now, and as many as it needs then, but at least twice that and one.
		want := api.OK
		if !c.fits {
			want = api.ErrFull
		}
		is(t, "Put", s.Put(filled(t, c.data, c.others)), want)
		if want == api.OK {
			is(t, "Lay", s.Lay(), api.OK)
			hasRoom(t, s)
			holds(t, s, filled(t, c.data, c.others))
		}
	}
}
