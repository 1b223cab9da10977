package store

import (
	"bytes"
	"slices"

	"moraine/api"
	"moraine/bank"
	"moraine/bits"
	"moraine/device"
	"moraine/dirent"
	"moraine/file"
	"moraine/geo"
	"moraine/meta"
	"moraine/scan"
	"moraine/super"
	"moraine/tree"
)

// mounting is what is found out step by step of what a rack has.
type mounting struct {
	rack  *device.Rack
	geo   api.Geometry
	bank  *bank.Bank
	group api.Group
	store *Store
}

// Mount: the store that a rack has; ErrCorrupt, if what its disks tell is none; ErrIO, if too many slots are bad.
func Mount(r *device.Rack) (*Store, api.Errno) {
	m := &mounting{rack: r}
	steps := []func() api.Errno{
		m.power, m.geometry, m.open, m.slots,
		m.look, m.load, m.mark,
		m.nodes, m.tree, m.room,
		m.records, m.lay,
	}
	if err := inOrder(steps...); err != api.OK {
		return nil, err
	}
	return m.store, api.OK
}

// power: ErrDead, if there is none.
func (m *mounting) power() api.Errno {
	if m.rack == nil || m.rack.Off() {
		return api.ErrDead
	}
	return api.OK
}

// geometry finds the one that the supers tell: all that are there must tell the same, and it must go with the rack.
func (m *mounting) geometry() api.Errno {
	var found []api.Geometry
	for _, data := range m.all(superSector) {
		if told, ok := super.GetSuper(data); ok {
			found = append(found, told.Geo)
		}
	}
	found = slices.Compact(found)
	if len(found) != 1 || !isRackOf(m.rack, found[0]) {
		return api.ErrCorrupt
	}
	m.geo = found[0]
	return api.OK
}

// open opens the bank with the newest member.
func (m *mounting) open() api.Errno {
	member := super.NewestMember(slices.Concat(m.all(evenMemberSector), m.all(oddMemberSector)))
	b, err := bank.Open(m.rack, m.geo, member)
	if err != api.OK {
		return api.ErrCorrupt
	}
	m.bank = b
	return api.OK
}

// slots: ErrIO, if too many are bad.
func (m *mounting) slots() api.Errno {
	if isBeyondParity(m.bank) {
		return api.ErrIO
	}
	return api.OK
}

// look finds the newest group, and all segments of which blocks can be read.
func (m *mounting) look() api.Errno {
	infos, seq, err := scan.Look(m.bank)
	if err != api.OK {
		return err
	}
	groups := scan.Groups(infos)
	if seq >= api.MaxSeq || len(groups) == 0 {
		return api.ErrCorrupt
	}
	m.group = groups[len(groups)-1]
	m.store = newStore(m.bank, seq)
	for _, info := range infos {
		m.store.from.seqs[info.Seg] = info.Seq
	}
	return api.OK
}

// load loads the group's list of nodes.
func (m *mounting) load() api.Errno {
	list, read, err := meta.Load(m.geo, m.store.from, m.group.Root)
	if err != api.OK {
		return corrupt(err)
	}
	m.store.last = lasting{list: list, first: m.group.Seq}
	m.store.last.own = m.own(read)
	return api.OK
}

// own: the segments that the group has for all but data; those, too, in which blocks of its list were read, wherever they are: they must stay till it is laid anew.
func (m *mounting) own(read []int) []int {
	segs := slices.Clone(m.group.Segs)
	for _, address := range read {
		seg, _, _ := geo.Where(m.geo, address)
		segs = append(segs, seg)
	}
	slices.Sort(segs)
	counts := m.store.counts()
	return slices.DeleteFunc(slices.Compact(segs), func(seg int) bool { return counts[seg] > 0 })
}

// mark: ErrCorrupt, if a newer group than this one must be there.
func (m *mounting) mark() api.Errno {
	newest := super.NewestMark(slices.Concat(m.bank.All(firstMarkSector), m.bank.All(secondMarkSector)))
	if newest.Seq > m.store.last.first {
		return api.ErrCorrupt
	}
	return api.OK
}

// nodes makes what is there of the list of nodes.
func (m *mounting) nodes() api.Errno {
	m.store.there = make(nodes)
	for _, told := range m.store.last.list {
		if err := m.data(told); err != api.OK {
			return err
		}
		n, ok := m.node(told)
		if !ok {
			return api.ErrCorrupt
		}
		m.store.there[told.Ino] = n
	}
	return api.OK
}

// data: what is wrong with the blocks of a node's data.
func (m *mounting) data(told api.Inode) api.Errno {
	for k, address := range told.Addrs {
		if address == nowhere {
			continue
		}
		b, err := m.store.from.Block(address)
		if err != api.OK {
			return corrupt(err)
		}
		// Only the last block has bytes behind the size.
		end := min(told.Size-k*api.Payload, api.Payload)
		if bits.Nought(b) || !bits.Nought(b[end:]) {
			return api.ErrCorrupt
		}
	}
	return api.OK
}

// node: a node of the list, whose blocks are as they should be; false, if it is a directory, and its bytes are those of no entries.
func (m *mounting) node(told api.Inode) (*node, bool) {
	f, _ := file.New(told.Size, told.Addrs, m.store.from)
	n := &node{kind: told.Kind, links: told.Links, file: f}
	if told.Kind != api.KDir {
		return n, true
	}
	b, _ := f.Read(0, told.Size)
	entries, ok := dirent.Decode(b)
	n.entries = entries
	return n, ok
}

// tree: ErrCorrupt, unless what is there is a right tree that has all nodes.
func (m *mounting) tree() api.Errno {
	there := m.store.there
	isOfNone := func(e api.Entry) bool { return there[e.Ino] == nil }
	for _, n := range there {
		if slices.ContainsFunc(n.entries, isOfNone) {
			return api.ErrCorrupt
		}
	}
	// Its blocks were all read before.
	t, _ := there.tree()
	if !tree.Right(t) || len(t.Nodes) != len(there) {
		return api.ErrCorrupt
	}
	return api.OK
}

// room: ErrCorrupt, if what is there doesn't fit.
func (m *mounting) room() api.Errno {
	if !m.store.Room() {
		return api.ErrCorrupt
	}
	return api.OK
}

// records writes the super and the member on all disks, if the power went before all of them had got these: else the next disk that fails could be the only one that tells them.
func (m *mounting) records() api.Errno {
	record, _ := super.PutSuper(api.Super{Geo: m.geo})
	if err := m.complete(superSector, record); err != api.OK {
		return err
	}
	member := m.bank.Member()
	sector := evenMemberSector
	if member.Epoch%2 != 0 {
		sector = oddMemberSector
	}
	record, _ = super.PutMember(member)
	return m.complete(sector, record)
}

// complete writes a record on all disks, unless all have it.
func (m *mounting) complete(sector int, record []byte) api.Errno {
	lacks := func(data []byte) bool { return !bytes.Equal(data, record) }
	if !slices.ContainsFunc(m.bank.All(sector), lacks) {
		return api.OK
	}
	return m.bank.Everywhere(sector, record)
}

// lay lays what is there anew, so that nothing of a later group is ever found that was torn.
func (m *mounting) lay() api.Errno {
	return inOrder(m.store.Lay, m.store.Mark)
}

// all: a sector of all disks of the rack that tell it.
func (m *mounting) all(sector int) [][]byte {
	var all [][]byte
	disks, _ := m.rack.Size()
	for disk := range disks {
		if data, err := m.rack.Read(disk, sector); err == api.OK {
			all = append(all, data)
		}
	}
	return all
}

// isRackOf: does a geometry go with a rack?
func isRackOf(r *device.Rack, g api.Geometry) bool {
	_, err := bank.Open(r, g, api.Member{})
	return err == api.OK
}

// corrupt: what is told of blocks that can't be read.
func corrupt(err api.Errno) api.Errno {
	if err == api.ErrDead {
		return err
	}
	return api.ErrCorrupt
}
