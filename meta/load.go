package meta

import (
	"bytes"
	"slices"

	"moraine/api"
	"moraine/bits"
	"moraine/inode"
)

// loader reads blocks. What is wrong is told by a panic of an api.Errno.
type loader struct {
	g    api.Geometry
	from Source
	// read has the addresses of all blocks that were read.
	read []int
	// hasEmpty tells that a pointers' block without a pointer was read. That is wrong, but all else is looked at ahead of it.
	hasEmpty bool
}

// Load: the list whose root is at an address, and the addresses of all blocks that were read.
func Load(g api.Geometry, from Source, root int) (list []api.Inode, read []int, wrong api.Errno) {
	defer func() {
		if e := recover(); e != nil {
			wrong = e.(api.Errno)
		}
	}()
	l := &loader{g: g, from: from}
	list = l.list(root)
	return list, l.read, api.OK
}

// list reads all blocks from the root on.
func (l *loader) list(root int) []api.Inode {
	var records []int
	for _, address := range l.root(root) {
		chart := l.readPointers(address)
		records = append(records, chart[:]...)
	}
	var list []api.Inode
	for place, address := range records {
		if isSomewhere(address) {
			list = append(list, l.node(place+rootIno, address))
		}
	}
	refuse(l.hasEmpty || !Right(l.g, list))
	return list
}

// root reads the root, and answers where the charts are.
func (l *loader) root(address int) [charts]int {
	b := l.block(address)
	var at [charts]int
	for i := range at {
		at[i], _ = bits.Get(b, (i+1)*numberWidth, numberWidth)
	}
	// A root has just one row of bytes. So others than those of its charts are none's.
	refuse(!bytes.Equal(b, rootBytes(at)))
	return at
}

// node reads a record, and the pointers' blocks of its node.
func (l *loader) node(ino, address int) api.Inode {
	r, ok := inode.Get(l.block(address))
	refuse(!ok)
	var all addresses
	copy(all[:], r.Direct[:])
	all.put(singleFrom, l.readSome(r.Single))
	many := l.readSome(r.Double)
	for i, p := range many {
		all.put(firstOf(i), l.readSome(p))
	}
	blocks := inode.Blocks(r.Size)
	refuse(hasBehind(all, blocks) || pointsBehind(many, blocks))
	list := all[:blocks]
	refuse(slices.ContainsFunc(list, func(p int) bool { return isSomewhere(p) && !isAddress(l.g, p) }))
	return api.Inode{Ino: ino, Kind: r.Kind, Links: r.Links, Size: r.Size, Addrs: trimmed(list)}
}

// readSome reads a node's block of pointers, if there is one; else all of them are noughts.
func (l *loader) readSome(address int) pointers {
	if !isSomewhere(address) {
		return pointers{}
	}
	list := l.readPointers(address)
	l.hasEmpty = l.hasEmpty || list == (pointers{})
	return list
}

// readPointers reads a block of pointers.
func (l *loader) readPointers(address int) pointers {
	list, _ := inode.GetPointers(l.block(address))
	return pointers(list)
}

// block reads a block.
func (l *loader) block(address int) []byte {
	refuse(l.from == nil || !isAddress(l.g, address))
	b, err := l.from.Block(address)
	if err != api.OK {
		panic(err)
	}
	refuse(len(b) != api.Payload)
	l.read = append(l.read, address)
	return b
}

// refuse ends the reading, if blocks are none of a list.
func refuse(isWrong bool) {
	if isWrong {
		panic(api.ErrCorrupt)
	}
}

// put puts a block of pointers where the first block is that it tells.
func (a *addresses) put(first int, list pointers) {
	copy(a[first:], list[:])
}

// hasBehind: has one of the blocks from a number on an address?
func hasBehind(all addresses, blocks int) bool {
	return slices.ContainsFunc(all[blocks:], isSomewhere)
}

// pointsBehind: do some of Double's pointers tell a pointers' block of which no block is among the first ones?
func pointsBehind(many pointers, blocks int) bool {
	for i, p := range many {
		if isSomewhere(p) && firstOf(i) >= blocks {
			return true
		}
	}
	return false
}

// trimmed: a copy of a list of addresses, without what lies behind the last one.
func trimmed(list []int) []int {
	end := len(list)
	for end > 0 && !isSomewhere(list[end-1]) {
		end--
	}
	return slices.Clone(list[:end])
}
