package tree

import (
	"bytes"
	"slices"
	"strings"

	"moraine/api"
	"moraine/dirent"
)

// root is the place of the root.
const root = 0

// ownLinks are those of a directory that has no directories.
const ownLinks = 2

// worker works on a tree. It puts others in the place of nodes, entries and bytes, and changes none of the lists that the tree came with.
type worker struct {
	api.Tree
	// places has, of each node that was met, how many were met ahead of it.
	places map[int]int
	// entries has how many entries each node was met by.
	entries map[int]int
}

// workerOn: a worker with a list of nodes of its own.
func workerOn(t api.Tree) *worker {
	return &worker{Tree: api.Tree{Nodes: slices.Clone(t.Nodes)}}
}

// meetAll goes through the nodes from the root on.
func (w *worker) meetAll() {
	w.places, w.entries = make(map[int]int), make(map[int]int)
	w.meet(root)
}

// meet goes through a node's entries, unless it was met before; so it comes to an end in a circle, too.
func (w *worker) meet(place int) {
	if _, met := w.places[place]; met {
		return
	}
	w.places[place] = len(w.places)
	for _, e := range w.Nodes[place].Entries {
		w.entries[e.Ino]++
		w.meet(e.Ino)
	}
}

// numbered: the nodes that are met, at the places that they have then, with their links as they are then; in new memory.
func (w *worker) numbered() api.Tree {
	w.meetAll()
	nodes := make([]api.Node, len(w.places))
	for old, place := range w.places {
		nodes[place] = w.copied(old)
	}
	return api.Tree{Nodes: nodes}
}

// copied: a node in new memory, whose entries tell the places at which nodes were met.
func (w *worker) copied(place int) api.Node {
	n := w.Nodes[place]
	var entries []api.Entry
	for _, e := range n.Entries {
		entries = append(entries, api.Entry{Name: strings.Clone(e.Name), Ino: w.places[e.Ino]})
	}
	return api.Node{Kind: n.Kind, Links: w.links(place), Data: bytes.Clone(n.Data), Entries: entries}
}

// links: how many links a node has, when all are met.
func (w *worker) links(place int) int {
	if !w.isDir(place) {
		return w.entries[place]
	}
	links := ownLinks
	for _, e := range w.Nodes[place].Entries {
		if w.isDir(e.Ino) {
			links++
		}
	}
	return links
}

// isWrong: can this be no node, whatever the other ones are?
func (w *worker) isWrong(n api.Node) bool {
	switch n.Kind {
	case api.KFile:
		return len(n.Entries) > 0 || len(n.Data) > api.MaxSize
	case api.KDir:
		return len(n.Data) > 0 || !w.areEntries(n.Entries)
	}
	return true
}

// areEntries: may these be a directory's entries?
func (w *worker) areEntries(list []api.Entry) bool {
	// Whatever layer 11 encodes has names that rise, not too many, and no place below 1.
	_, ok := dirent.Encode(list)
	return ok && !slices.ContainsFunc(list, func(e api.Entry) bool {
		return e.Ino >= len(w.Nodes)
	})
}

// isInOrder: was a node met at its own place, by as many entries as it may have, and does it tell its links?
func (w *worker) isInOrder(place int) bool {
	at, met := w.places[place]
	if !met || at != place || w.Nodes[place].Links != w.links(place) {
		return false
	}
	if w.isDir(place) {
		// The root has no entry, as none leads to place 0.
		return place == root || w.entries[place] == 1
	}
	return w.entries[place] <= api.MaxLinks
}

// isDir: is a node a directory?
func (w *worker) isDir(place int) bool {
	return w.Nodes[place].Kind == api.KDir
}
