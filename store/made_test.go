package store

import (
	"slices"
	"testing"

	"moraine/api"
	"moraine/device"
	"moraine/meta"
)

// made is what a rack is made to have: records, and one group, whichever its list of nodes and its blocks are.
type made struct {
	t    *testing.T
	g    api.Geometry
	tree api.Tree
	list []api.Inode
	// blocks are by their addresses: those of data, and behind lay those of the list, too.
	blocks map[int]api.Block
	// segs are the group's, in order, own those of them for all but data; more are the addresses of the list's blocks.
	segs, own, more []int
	// slots are the disks of the slots.
	slots []int
	seq   int
	mark  int
}

// madeOf: a tree in a group whose segments lie in no order, the last one of all among them.
func madeOf(t *testing.T, g api.Geometry, tree api.Tree) *made {
	t.Helper()
	x := &made{t: t, g: g, tree: tree, blocks: make(map[int]api.Block), seq: 40, mark: 40}
	for slot := range g.Disks {
		x.slots = append(x.slots, slot)
	}
	at := make(map[block]int)
	all := dataOf(tree)
	n := segs(g, len(all))
	for i := range n {
		x.segs = append(x.segs, g.Segs-1-i)
	}
	for i, b := range all {
		at[b] = x.address(x.segs[i/places(g)], i%places(g))
		x.blocks[at[b]] = api.Block{Owner: b.ino, Index: b.k, Data: cut(tree.Nodes[b.ino-1])[b.k]}
	}
	x.list = listOf(tree, at)
	x.enough()
	return x
}

// address: the one of a place of a segment, the places being numbered from 0 on.
func (x *made) address(seg, place int) int {
	return seg*places(x.g) + place + 1
}

// at: the address of a node's block of data.
func (x *made) at(ino, k int) int {
	x.t.Helper()
	for _, n := range x.list {
		if n.Ino == ino {
			return n.Addrs[k]
		}
	}
	x.t.Fatalf("no node %d", ino)
	return 0
}

// node: a node of the list.
func (x *made) node(ino int) *api.Inode {
	x.t.Helper()
	i := slices.IndexFunc(x.list, func(n api.Inode) bool { return n.Ino == ino })
	if i < 0 {
		x.t.Fatalf("no node %d", ino)
	}
	return &x.list[i]
}

// enough gives the group as many own segments as its list needs.
func (x *made) enough() {
	for len(x.own) < segs(x.g, meta.Count(x.g, x.list)) {
		x.own = append(x.own, 4-len(x.own))
		x.segs = append(x.segs, x.own[len(x.own)-1])
	}
}

// build builds the blocks of the list, as it is now, into the group's own segments.
func (x *made) build() {
	x.t.Helper()
	x.more = nil
	x.enough()
	for i := range meta.Count(x.g, x.list) {
		x.more = append(x.more, x.address(x.own[i/places(x.g)], i%places(x.g)))
	}
	list, ok := meta.Build(x.g, x.list, x.more)
	if !ok || len(x.more) == 0 {
		x.t.Fatalf("%v is no list", x.list)
	}
	for i, b := range list {
		x.blocks[x.more[i]] = b
	}
}

// root: the address of the list's root.
func (x *made) root() int {
	return x.more[len(x.more)-1]
}

// rack: a rack that has all of it.
func (x *made) rack() *device.Rack {
	x.t.Helper()
	r := newRack(x.t, x.g)
	for disk := range x.g.Disks + 1 {
		puts(x.t, r, disk, 0, record(77, 79, 82, 1, byte(x.g.Disks), byte(x.g.Rows), byte(x.g.Segs)))
		puts(x.t, r, disk, 2, record(77, 79, 82, 2, byte(x.mark), byte(x.mark>>8), byte(x.mark>>16), byte(x.mark>>24)))
		puts(x.t, r, disk, 3, record(77, 79, 82, 3))
	}
	x.write(r)
	return r
}

// write writes the group.
func (x *made) write(r *device.Rack) {
	x.t.Helper()
	if len(x.more) == 0 {
		x.build()
	}
	for i := range x.segs {
		x.writeSegment(r, i)
	}
}

// writeSegment writes one of the group's segments.
func (x *made) writeSegment(r *device.Rack, i int) {
	x.t.Helper()
	seg, root := x.segs[i], 0
	if i == len(x.segs)-1 {
		root = x.root()
	}
	blocks := []api.Block{{Owner: 65535, Data: []byte{83, 83, byte(len(x.segs)), 0, byte(i), 0, byte(places(x.g)), 0, byte(root), byte(root >> 8)}}}
	for place := range places(x.g) {
		blocks = append(blocks, x.blocks[x.address(seg, place)])
	}
	for row, sectors := range imageOf(x.g, seg, x.seq+i, blocks) {
		for slot, data := range sectors {
			puts(x.t, r, x.slots[slot], 5+seg*x.g.Rows+row, data)
		}
	}
}

// isFound: the rack is mounted, also if any disk fails ahead of that, and has the tree; and all of it is there behind a further mount.
func (x *made) isFound(what string) {
	x.t.Helper()
	for disk := -1; disk < x.g.Disks+1; disk++ {
		r := x.rack()
		if disk >= 0 {
			lose(x.t, r, disk)
		}
		for range 2 {
			s, err := Mount(r)
			if err != api.OK {
				x.t.Errorf("%s, without disk %d: %v", what, disk, err)
				break
			}
			holds(x.t, s, x.tree)
			hasRoom(x.t, s)
			again(x.t, r)
		}
	}
}

// isRefused: the rack isn't mounted, with this error, also if any disk fails ahead of that.
func (x *made) isRefused(what string, want api.Errno) {
	x.t.Helper()
	for disk := -1; disk < x.g.Disks+1; disk++ {
		r := x.rack()
		if disk >= 0 {
			lose(x.t, r, disk)
		}
		refuses(x.t, what, r, want)
	}
}
