package store

import (
	"bytes"
	"testing"

	"moraine/api"
	"moraine/device"
	"moraine/geo"
	"moraine/tree"
)

// The tree of most of these tests: the root has d (2), empty (5), z (4, 2 links); d has e (3) and f (6); e has more (4).
func TestTheTreeOfTheseTests(t *testing.T) {
	x := some(t, 6)
	for path, want := range map[string]int{"/": 1, "/d": 2, "/d/e": 3, "/d/e/more": 4, "/d/f": 5, "/empty": 6, "/z": 4} {
		if place, err := tree.Find(x, path); err != api.OK || place+1 != want {
			t.Errorf("%s: %d, %v", path, place+1, err)
		}
	}
}

// entries gives a directory of what is made other bytes, with as many blocks as it had.
func (x *made) entries(ino int, b []byte) {
	x.t.Helper()
	x.node(ino).Size = len(b)
	address := x.at(ino, 0)
	x.blocks[address] = api.Block{Owner: ino, Data: b}
}

// Lists whose tree isn't right, or has a node that isn't met.
func TestMountWithATreeThatIsNotRight(t *testing.T) {
	root := []byte{2, 0, 1, 'd', 6, 0, 5, 'e', 'm', 'p', 't', 'y', 4, 0, 1, 'z'}
	for what, spoil := range map[string]func(x *made){
		"a file of too many links":          func(x *made) { x.node(4).Links++ },
		"a file of too few links":           func(x *made) { x.node(4).Links-- },
		"a directory of too many links":     func(x *made) { x.node(2).Links++ },
		"a root of too few links":           func(x *made) { x.node(1).Links-- },
		"a file that is a directory":        func(x *made) { x.node(4).Kind = api.KDir },
		"an empty file that is a directory": func(x *made) { x.node(6).Kind = api.KDir },
		"a directory that is a file":        func(x *made) { x.node(2).Kind = api.KFile },
		"an entry of no node":               func(x *made) { x.entries(1, append(bytes.Clone(root), 7, 0, 2, 'z', 'z')) },
		"an entry of another node":          func(x *made) { x.entries(3, []byte{5, 0, 4, 'm', 'o', 'r', 'e'}) },
		"an entry of the root":              func(x *made) { x.entries(3, []byte{1, 0, 4, 'm', 'o', 'r', 'e'}) },
		"an entry of the directory itself":  func(x *made) { x.entries(3, []byte{3, 0, 4, 'm', 'o', 'r', 'e'}) },
		"an entry of the directory above":   func(x *made) { x.entries(3, []byte{2, 0, 4, 'm', 'o', 'r', 'e'}) },
		"an entry of no Ino":                func(x *made) { x.entries(3, []byte{0, 0, 4, 'm', 'o', 'r', 'e'}) },
		"an entry of too great an Ino":      func(x *made) { x.entries(3, []byte{57, 0, 4, 'm', 'o', 'r', 'e'}) },
		"an entry of 256 and an Ino":        func(x *made) { x.entries(3, []byte{4, 1, 4, 'm', 'o', 'r', 'e'}) },
		"a name that is too short":          func(x *made) { x.entries(3, []byte{4, 0, 4, 'm', 'o', 'r'}) },
		"a byte behind a name":              func(x *made) { x.entries(3, []byte{4, 0, 4, 'm', 'o', 'r', 'e', 4}) },
		"a nought behind a name":            func(x *made) { x.entries(3, []byte{4, 0, 4, 'm', 'o', 'r', 'e', 0}) },
		"no name":                           func(x *made) { x.entries(3, []byte{4, 0, 0}) },
		"a name that can't be":              func(x *made) { x.entries(3, []byte{4, 0, 4, 'm', '/', 'r', 'e'}) },
		"names that don't rise":             func(x *made) { x.entries(2, []byte{5, 0, 1, 'f', 3, 0, 1, 'e'}) },
		"an empty directory with bytes": func(x *made) {
			x.list = append(x.list, api.Inode{Ino: 7, Kind: api.KDir, Links: 2, Size: 2, Addrs: []int{x.address(15, 4)}})
			x.blocks[x.address(15, 4)] = api.Block{Owner: 7, Data: []byte{7, 1}}
			x.entries(3, []byte{7, 0, 3, 'd', 'i', 'r', 4, 0, 4, 'm', 'o', 'r', 'e'})
			x.node(3).Links++
		},
		"a name twice":                             func(x *made) { x.entries(2, []byte{3, 0, 1, 'e', 5, 0, 1, 'e'}) },
		"a root without entries":                   func(x *made) { x.node(1).Size, x.node(1).Addrs = 0, nil },
		"a directory without its block":            func(x *made) { x.node(3).Addrs = nil },
		"a file that isn't met":                    func(x *made) { x.entries(1, root[4:]) },
		"a directory that isn't met":               func(x *made) { x.entries(1, root[4:]); x.node(1).Links-- },
		"a file more, that isn't met":              func(x *made) { x.list = append(x.list, api.Inode{Ino: 7, Kind: api.KFile, Links: 1}) },
		"a directory more, that isn't met":         func(x *made) { x.list = append(x.list, api.Inode{Ino: 56, Kind: api.KDir, Links: 2}) },
		"a file that has an entry and isn't there": func(x *made) { x.list = x.list[:5] },
		"a circle that isn't met": func(x *made) {
			x.list = append(x.list, api.Inode{Ino: 7, Kind: api.KDir, Links: 3, Size: 4, Addrs: []int{x.address(15, 4)}})
			x.blocks[x.address(15, 4)] = api.Block{Owner: 7, Data: []byte{7, 0, 1, 'a'}}
		},
	} {
		x := madeOf(t, small(), some(t, 6))
		spoil(x)
		x.isRefused(what, api.ErrCorrupt)
	}
}

// Inos needn't be one more than places, nor rise as nodes are met.
func TestMountWithInosInAnyOrder(t *testing.T) {
	x := madeOf(t, small(), some(t, 6))
	// The nodes 3 and 5 change their numbers, 6 is 56.
	x.entries(2, []byte{5, 0, 1, 'e', 3, 0, 1, 'f'})
	x.entries(1, []byte{2, 0, 1, 'd', 56, 0, 5, 'e', 'm', 'p', 't', 'y', 4, 0, 1, 'z'})
	x.list[2], x.list[4] = x.list[4], x.list[2]
	x.list[2].Ino, x.list[4].Ino, x.list[5].Ino = 3, 5, 56
	x.isFound("with Inos in another order")
}

// Blocks of data that can't be read, that are all 0, or that have bytes behind the size.
func TestMountWithDataThatIsNotRight(t *testing.T) {
	for what, spoil := range map[string]func(x *made){
		"a file's block is all 0":               func(x *made) { x.blocks[x.at(4, 1)] = api.Block{Owner: 4, Index: 1} },
		"a directory's block is all 0":          func(x *made) { x.blocks[x.at(3, 0)] = api.Block{Owner: 3} },
		"a file's block was never written":      func(x *made) { x.node(4).Addrs[1] = x.address(9, 2) },
		"a directory's block was never written": func(x *made) { x.node(2).Addrs[0] = x.address(9, 2) },
		"a hole is in a place of noughts":       func(x *made) { x.node(4).Addrs[3] = x.address(14, 4) },
		"a byte is behind the size":             func(x *made) { x.node(5).Size-- },
		"a byte is far behind the size": func(x *made) {
			x.blocks[x.at(5, 17)] = api.Block{Owner: 5, Index: 17, Data: append(make([]byte, 55), 1)}
		},
		"a byte is behind a directory's size": func(x *made) {
			x.blocks[x.at(3, 0)] = api.Block{Owner: 3, Data: []byte{4, 0, 4, 'm', 'o', 'r', 'e', 0, 1}}
		},
		"a file's block is one of the list": func(x *made) { x.node(5).Addrs[17] = x.address(4, 1) },
	} {
		x := madeOf(t, small(), some(t, 6))
		spoil(x)
		x.isRefused(what, api.ErrCorrupt)
	}
	// With the last byte of a block, and with noughts behind the size, it is as it should be.
	for _, size := range []int{953, 960, 1007, 1008} {
		x := madeOf(t, small(), grown(t, api.Op{Kind: api.OpCreate, Path: "/f"}, api.Op{Kind: api.OpWrite, Path: "/f", At: 952, Data: []byte{9}}, api.Op{Kind: api.OpTrunc, Path: "/f", N: size}))
		x.isFound("with noughts at the end")
	}
}

// inTwo: a rack on which an older group has the data, the newest one the list alone.
func (x *made) inTwo() *device.Rack {
	x.t.Helper()
	x.build()
	data, more := x.segs[:len(x.segs)-len(x.own)], x.more
	x.segs, x.more = data, []int{x.address(data[0], 0)}
	r := x.rack()
	x.segs, x.more, x.seq = x.own, more, x.seq+20
	x.write(r)
	return r
}

// The data lies in older groups: it is found, as long as its segments are whole.
func TestMountWithDataOfAnOlderGroup(t *testing.T) {
	for i := range 8 {
		x := madeOf(t, small(), filled(t, 4, 5))
		r := x.inTwo()
		slot, sector := i%4, 5+15*2+i/4
		puts(t, r, slot, sector, plain(39, api.Block{}))
		refuses(t, "with data in a torn segment", r, api.ErrCorrupt)
		lose(t, r, slot)
		holds(t, mounts(t, r), x.tree)
	}
	r := madeOf(t, small(), filled(t, 4, 5)).inTwo()
	uses(t, mounts(t, r), [2]int{0, 61}, [2]int{15, 40})
}

// A segment without a Seq isn't whole, whatever stands in it.
func TestMountWithDataOfNoSeq(t *testing.T) {
	x := madeOf(t, small(), filled(t, 4, 5))
	r := x.inTwo()
	for disk := range 4 {
		for _, sector := range []int{5 + 15*2, 6 + 15*2} {
			puts(t, r, disk, sector, append(make([]byte, 4), gets(t, r, disk, sector)[4:]...))
		}
	}
	refuses(t, "with data in a segment without a Seq", r, api.ErrCorrupt)
}

// What just fits is mounted; with one thing more it isn't: a block of data, a block of all else, a segment in use, an own one.
func TestMountWithWhatDoesNotFit(t *testing.T) {
	g := small()
	if p, q := geo.Caps(g); p != 2 || q != 3 {
		t.Fatal(p, q)
	}
	madeOf(t, g, filled(t, 10, 15)).isFound("a tree that just fits")
	madeOf(t, g, filled(t, 11, 15)).isRefused("a block of data too many", api.ErrCorrupt)
	madeOf(t, g, filled(t, 10, 16)).isRefused("a block of all else too many", api.ErrCorrupt)
	for _, c := range []struct {
		data, others, apart, empty int
		fits                       bool
	}{
		{10, 10, 10, 0, true}, {9, 11, 9, 0, true}, {10, 11, 10, 0, false}, {10, 11, 9, 0, true},
		// Empty segments of the group are its own, too: 6 in use, 3 to be laid, 7 own ones.
		{6, 11, 6, 4, true}, {6, 11, 6, 5, false}, {7, 11, 7, 4, false}, {1, 5, 1, 13, true}, {1, 5, 1, 14, false},
	} {
		x := madeOf(t, g, filled(t, c.data, c.others))
		x.spread(c.apart, c.empty)
		if c.fits {
			x.isFound("data in many segments")
		} else if len(x.segs) <= g.Segs {
			x.isRefused("data in too many segments", api.ErrCorrupt)
		}
	}
}

// spread lays the data of what is made in so many segments, from 0 on, the last one of which has all that is left; behind these are empty ones, then those of the list.
func (x *made) spread(apart, empty int) {
	blocks := make(map[int]api.Block)
	seen := 0
	for i := range x.list {
		for k, old := range x.list[i].Addrs {
			if old == 0 {
				continue
			}
			seg, place := seen, 0
			if seen >= apart {
				seg, place = apart-1, 1+seen-apart
			}
			seen++
			x.list[i].Addrs[k] = x.address(seg, place)
			blocks[x.address(seg, place)] = x.blocks[old]
		}
	}
	x.blocks = blocks
	x.segs = nil
	for seg := range apart + empty + len(x.own) {
		x.segs = append(x.segs, seg)
	}
	x.own = x.segs[apart+empty:]
}

// Two blocks at one address are a right tree; it stays one, whatever is laid.
func TestMountWithTwoBlocksAtOneAddress(t *testing.T) {
	x := madeOf(t, small(), grown(t,
		api.Op{Kind: api.OpCreate, Path: "/a"}, api.Op{Kind: api.OpCreate, Path: "/b"},
		api.Op{Kind: api.OpWrite, Path: "/a", Data: bytes.Repeat([]byte{5}, 112)},
		api.Op{Kind: api.OpWrite, Path: "/b", Data: bytes.Repeat([]byte{5}, 56)},
	))
	x.node(2).Addrs[1] = x.at(2, 0)
	x.node(3).Addrs[0] = x.at(2, 0)
	x.isFound("two blocks at one address")
}

// A block of data stands among those of the list: its segment stays in use, and isn't counted twice.
func TestMountWithDataAmongTheList(t *testing.T) {
	x := madeOf(t, api.Geometry{Disks: 5, Rows: 3, Segs: 24}, filled(t, 2, 5))
	from, to := x.at(2, 0), x.address(4, 10)
	x.node(2).Addrs[0] = to
	x.blocks[to] = x.blocks[from]
	x.isFound("data in the segment of the list")
	uses(t, mounts(t, x.rack()), [2]int{0, 42}, [2]int{4, 41}, [2]int{23, 40})
}

// The list's blocks needn't be in the group's segments: where they are, they stay till the list is laid anew, though the power goes.
func TestMountWithAListInAnOlderGroup(t *testing.T) {
	for calls := range 40 {
		x := madeOf(t, small(), filled(t, 2, 5))
		x.segs, x.own = []int{15, 0}, []int{0}
		r := x.rack()
		// A newer group has the root alone.
		root := x.address(2, 0)
		x.blocks[root] = x.blocks[x.root()]
		x.segs, x.more, x.seq = []int{2}, []int{root}, 50
		x.write(r)
		r.Arm(calls)
		_, err := Mount(r)
		if err == api.OK {
			r.Arm(0)
			is(t, "Flush", r.Flush(0), api.ErrDead)
		}
		r.Restore([]int{1, 1, 0})
		holds(t, mounts(t, r), x.tree)
	}
}
