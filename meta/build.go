package meta

import (
	"slices"

	"moraine/api"
	"moraine/inode"
)

// The Index of each block of a node; Double's pointers' blocks have the next ones behind that of the first.
const (
	recordIndex = 999
	singleIndex = 1000
	firstIndex  = 1001
	doubleIndex = 1100
)

// What blocks have that are no node's: their Owner, the root's Index, that of the first chart.
const (
	noOwner    = 0
	rootIndex  = 0
	chartIndex = 1
)

// layout lays blocks at addresses, one behind the other.
type layout struct {
	at     []int
	blocks []api.Block
}

// Build: a list's blocks, each for the address at its place, and true; none and false, if the list isn't right, or the addresses aren't as many.
func Build(g api.Geometry, list []api.Inode, at []int) ([]api.Block, bool) {
	isNone := func(address int) bool { return !isAddress(g, address) }
	if !Right(g, list) || len(at) != Count(g, list) || slices.ContainsFunc(at, isNone) {
		return nil, false
	}
	l := &layout{at: at}
	var records [charts]pointers
	for _, n := range list {
		place := n.Ino - rootIno
		records[place/api.Pointers][place%api.Pointers] = l.node(n)
	}
	var root [charts]int
	for i, chart := range records {
		root[i] = l.layPointers(noOwner, chartIndex+i, chart)
	}
	l.lay(noOwner, rootIndex, rootBytes(root))
	return l.blocks, true
}

// node lays a node's pointers' blocks and its record, and answers where this is.
func (l *layout) node(n api.Inode) int {
	var all addresses
	copy(all[:], n.Addrs)
	r := api.Record{Kind: n.Kind, Links: n.Links, Size: n.Size}
	copy(r.Direct[:], all[:])
	r.Single = l.laySome(n.Ino, singleIndex, all.from(singleFrom))
	var many pointers
	for i := range many {
		many[i] = l.laySome(n.Ino, firstIndex+i, all.from(firstOf(i)))
	}
	r.Double = l.laySome(n.Ino, doubleIndex, many)
	b, _ := inode.Put(r)
	return l.lay(n.Ino, recordIndex, b)
}

// laySome lays a block of pointers, if there are some, and answers where it is.
func (l *layout) laySome(owner, index int, list pointers) int {
	if list == (pointers{}) {
		return nowhere
	}
	return l.layPointers(owner, index, list)
}

// layPointers lays a block of pointers, and answers where it is.
func (l *layout) layPointers(owner, index int, list pointers) int {
	b, _ := inode.PutPointers(list[:])
	return l.lay(owner, index, b)
}

// lay lays a block, and answers where it is.
func (l *layout) lay(owner, index int, b []byte) int {
	address := l.at[len(l.blocks)]
	l.blocks = append(l.blocks, api.Block{Owner: owner, Index: index, Data: b})
	return address
}

// from: the addresses of as many blocks as a block of pointers tells, from one on.
func (a *addresses) from(first int) pointers {
	return pointers(a[first : first+api.Pointers])
}
