package store

import (
	"maps"
	"slices"
	"strings"

	"moraine/api"
	"moraine/file"
	"moraine/meta"
	"moraine/need"
)

// rootIno is the Ino of the directory in which all paths begin.
const rootIno = 1

// nowhere stands where an address would be, if a block is at one.
const nowhere = 0

// node is a file or a directory. A directory's bytes are its file's; its entries stand beside them, as paths are gone through also where its blocks can't be read.
type node struct {
	kind, links int
	entries     []api.Entry
	file        *file.File
}

// nodes are by their Inos.
type nodes map[int]*node

// nodesOf: the nodes of a tree that is right, all of whose blocks are new.
func nodesOf(t api.Tree, from meta.Source) nodes {
	ns := make(nodes)
	for place, told := range t.Nodes {
		f, _ := file.New(0, nil, from)
		f.Write(0, need.Says(told))
		n := &node{kind: told.Kind, links: told.Links, file: f}
		for _, e := range told.Entries {
			n.entries = append(n.entries, api.Entry{Name: strings.Clone(e.Name), Ino: inoOf(e.Ino)})
		}
		ns[inoOf(place)] = n
	}
	return ns
}

// inoOf: the Ino of the node at a place of a tree.
func inoOf(place int) int {
	return rootIno + place
}

// inos: the nodes' Inos, rising.
func (ns nodes) inos() []int {
	return slices.Sorted(maps.Keys(ns))
}

// tree: the nodes that are met from the root on, as a tree; the error of a block that can't be read.
func (ns nodes) tree() (api.Tree, api.Errno) {
	inos, places := ns.met()
	var t api.Tree
	for _, ino := range inos {
		n, err := ns[ino].told(places)
		if err != api.OK {
			return api.Tree{}, err
		}
		t.Nodes = append(t.Nodes, n)
	}
	return t, api.OK
}

// met: the Inos of the nodes in the order in which they are met from the root on, and the place of each in it.
func (ns nodes) met() ([]int, map[int]int) {
	var inos []int
	places := make(map[int]int)
	var meet func(ino int)
	meet = func(ino int) {
		if _, met := places[ino]; met {
			return
		}
		places[ino] = len(inos)
		inos = append(inos, ino)
		for _, e := range ns[ino].entries {
			meet(e.Ino)
		}
	}
	meet(rootIno)
	return inos, places
}

// told: a node as one of a tree, in which nodes have these places.
func (n *node) told(places map[int]int) (api.Node, api.Errno) {
	out := api.Node{Kind: n.kind, Links: n.links}
	if n.kind == api.KDir {
		for _, e := range n.entries {
			out.Entries = append(out.Entries, api.Entry{Name: strings.Clone(e.Name), Ino: places[e.Ino]})
		}
		return out, api.OK
	}
	var err api.Errno
	out.Data, err = n.file.Read(0, n.file.Size())
	return out, err
}

// fresh: the blocks that are new, by rising Inos, each node's by rising numbers.
func (ns nodes) fresh() []api.Block {
	var fresh []api.Block
	for _, ino := range ns.inos() {
		blocks := ns[ino].file.Blocks()
		for _, k := range blocks.Fresh() {
			b, _ := blocks.Bytes(k)
			fresh = append(fresh, api.Block{Owner: ino, Index: k, Data: b})
		}
	}
	return fresh
}

// list: the list of the nodes. Where each block comes to that is new, place tells, which is asked in the order of fresh.
func (ns nodes) list(place func() int) []api.Inode {
	var list []api.Inode
	for _, ino := range ns.inos() {
		n := ns[ino]
		list = append(list, api.Inode{Ino: ino, Kind: n.kind, Links: n.links, Size: n.file.Size(), Addrs: n.addresses(place)})
	}
	return list
}

// addresses: those of a node's blocks, up to the last one that is there.
func (n *node) addresses(place func() int) []int {
	blocks := n.file.Blocks()
	var out []int
	for _, k := range blocks.There() {
		out = append(out, make([]int, k-len(out))...)
		address := blocks.At(k)
		if address == nowhere {
			address = place()
		}
		out = append(out, address)
	}
	return out
}

// addressesOf: all addresses of a list's data.
func addressesOf(list []api.Inode) []int {
	var all []int
	for _, n := range list {
		for _, address := range n.Addrs {
			if address != nowhere {
				all = append(all, address)
			}
		}
	}
	return all
}
