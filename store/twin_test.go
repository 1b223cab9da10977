package store

import (
	"bytes"
	"slices"
	"testing"

	"moraine/api"
	"moraine/device"
	"moraine/meta"
)

// block is a block of a node's bytes, told by its Ino and its number.
type block struct{ ino, k int }

// twin does what a store does in the plainest way, on a rack of its own. It never looks at what the disks tell: it knows what was written.
type twin struct {
	g api.Geometry
	r *device.Rack
	// there is what is there; at has the address of each of its blocks that isn't new.
	there api.Tree
	at    map[block]int
	last  written
	// torn are the groups that were begun since the last one that was laid.
	torn []written
	// seq is the greatest Seq that was used or seen, marks how many marks there were since the mount.
	seq, marks int
}

// written is a group, and what lasts when it is whole.
type written struct {
	tree      api.Tree
	at        map[block]int
	segs, own []int
	first     int
	// seqs has the Seqs of the segments in use behind it.
	seqs map[int]int
	// image has the group's segments' sectors.
	image [][][][]byte
}

// says: the bytes of a node.
func says(n api.Node) []byte {
	out := slices.Clone(n.Data)
	for _, e := range n.Entries {
		out = append(out, byte(e.Ino+1), 0, byte(len(e.Name)))
		out = append(out, e.Name...)
	}
	return out
}

// cut: a node's blocks that aren't all 0, by their numbers.
func cut(n api.Node) map[int][]byte {
	out := make(map[int][]byte)
	b := says(n)
	for k := 0; k*56 < len(b); k++ {
		if part := b[k*56 : min(len(b), k*56+56)]; !bytes.Equal(part, make([]byte, len(part))) {
			out[k] = part
		}
	}
	return out
}

// dataOf: all blocks of a tree's data that there are, in the order in which they are laid.
func dataOf(x api.Tree) []block {
	var out []block
	for place, n := range x.Nodes {
		blocks := cut(n)
		for k := range 828 {
			if _, is := blocks[k]; is {
				out = append(out, block{place + 1, k})
			}
		}
	}
	return out
}

// listOf: the list of a tree's nodes, with their blocks at these addresses.
func listOf(x api.Tree, at map[block]int) []api.Inode {
	var list []api.Inode
	for place, n := range x.Nodes {
		node := api.Inode{Ino: place + 1, Kind: n.Kind, Links: n.Links, Size: len(says(n))}
		for k := range (node.Size + 55) / 56 {
			node.Addrs = append(node.Addrs, at[block{place + 1, k}])
		}
		list = append(list, node)
	}
	return list
}

// segs: how many segments so many blocks take.
func segs(g api.Geometry, blocks int) int {
	n := 0
	for n*places(g) < blocks {
		n++
	}
	return n
}

// free: the segments in which nothing lasts.
func (w *twin) free() []int {
	var out []int
	for seg := range w.g.Segs {
		if w.last.seqs[seg] == 0 {
			out = append(out, seg)
		}
	}
	return out
}

// plan: the group that is laid of what is there.
func (w *twin) plan() written {
	free, d := w.free(), places(w.g)
	out := written{tree: w.there, at: make(map[block]int), first: w.seq + 1, seqs: make(map[int]int)}
	var fresh []api.Block
	for _, b := range dataOf(w.there) {
		out.at[b] = w.at[b]
		if w.at[b] == 0 {
			out.at[b] = free[len(fresh)/d]*d + 1 + len(fresh)%d
			fresh = append(fresh, api.Block{Owner: b.ino, Index: b.k, Data: cut(w.there.Nodes[b.ino-1])[b.k]})
		}
	}
	n := segs(w.g, len(fresh))
	list := listOf(w.there, out.at)
	var at []int
	for i := range meta.Count(w.g, list) {
		at = append(at, free[n+i/d]*d+1+i%d)
	}
	more, _ := meta.Build(w.g, list, at)
	m := segs(w.g, len(more))
	out.segs, out.own = free[:n+m], free[n:n+m]
	for i, seg := range out.segs {
		blocks, from := fresh, i*d
		if i >= n {
			blocks, from = more, (i-n)*d
		}
		blocks = blocks[from:min(len(blocks), from+d)]
		root := 0
		if i == n+m-1 {
			root = at[len(at)-1]
		}
		summary := api.Block{Owner: 65535, Data: []byte{83, 83, byte(n + m), 0, byte(i), 0, byte(len(blocks)), 0, byte(root), byte(root >> 8)}}
		out.image = append(out.image, imageOf(w.g, seg, out.first+i, append([]api.Block{summary}, blocks...)))
	}
	w.use(&out)
	return out
}

// use notes which segments are in use behind a group.
func (w *twin) use(x *written) {
	for _, address := range x.at {
		seg := (address - 1) / places(w.g)
		x.seqs[seg] = w.last.seqs[seg]
	}
	for i, seg := range x.segs {
		x.seqs[seg] = x.first + i
	}
}

// bad: how many disks of slots have failed.
func (w *twin) bad() int {
	n := 0
	for disk := range w.g.Disks {
		if w.r.Failed(disk) {
			n++
		}
	}
	return n
}

// lay writes what is there.
func (w *twin) lay() api.Errno {
	x := w.plan()
	w.torn = append(w.torn, x)
	for i, seg := range x.segs {
		w.seq++
		if w.bad() > 1 {
			return api.ErrIO
		}
		for n := range w.g.Rows * w.g.Disks {
			row, slot := n/w.g.Disks, slotOf(w.g, seg, n/w.g.Disks, n%w.g.Disks)
			if w.r.Write(slot, 5+seg*w.g.Rows+row, x.image[i][row][slot]) == api.ErrDead {
				return api.ErrDead
			}
		}
		if w.bad() > 1 {
			return api.ErrIO
		}
	}
	if err := w.flush(); err != api.OK {
		return err
	}
	w.lasts(x)
	return api.OK
}

// lasts notes that a group is whole.
func (w *twin) lasts(x written) {
	w.last, w.torn, w.there, w.at = x, nil, x.tree, x.at
}

// flush flushes all disks.
func (w *twin) flush() api.Errno {
	for disk := range w.g.Disks + 1 {
		if w.r.Flush(disk) == api.ErrDead {
			return api.ErrDead
		}
	}
	if w.bad() > 1 {
		return api.ErrIO
	}
	return api.OK
}

// everywhere writes a record on all disks.
func (w *twin) everywhere(sector int, front ...byte) api.Errno {
	for disk := range w.g.Disks + 1 {
		if w.r.Write(disk, sector, record(front...)) == api.ErrDead {
			return api.ErrDead
		}
	}
	return api.OK
}

// mark marks the last group.
func (w *twin) mark() api.Errno {
	seq := w.last.first
	if err := w.everywhere(2-w.marks%2, 77, 79, 82, 2, byte(seq), byte(seq>>8), byte(seq>>16), byte(seq>>24)); err != api.OK {
		return err
	}
	w.marks++
	return w.flush()
}

// format formats the rack.
func (w *twin) format() api.Errno {
	w.seq, w.there, w.at = w.greatest(), alone(), nil
	steps := []func() api.Errno{
		func() api.Errno {
			return w.everywhere(0, 77, 79, 82, 1, byte(w.g.Disks), byte(w.g.Rows), byte(w.g.Segs))
		},
		func() api.Errno { return w.everywhere(3, 77, 79, 82, 3) },
		func() api.Errno { return w.everywhere(4, 77, 79, 82, 3) },
		w.lay, w.mark, w.mark,
	}
	for _, step := range steps {
		if err := step(); err != api.OK {
			return err
		}
	}
	return api.OK
}

// isWhole: have all disks of slots that haven't failed a group's sectors?
func (w *twin) isWhole(x written) bool {
	for i, seg := range x.segs {
		for row := range w.g.Rows {
			for slot := range w.g.Disks {
				data, err := w.r.Read(slot, 5+seg*w.g.Rows+row)
				if err == api.OK && !bytes.Equal(data, x.image[i][row][slot]) {
					return false
				}
			}
		}
	}
	return true
}

// greatest: the greatest Seq that any disk tells.
func (w *twin) greatest() int {
	most := 0
	for disk := range w.g.Disks + 1 {
		for sector := 5; sector < 5+w.g.Rows*w.g.Segs; sector++ {
			if data, err := w.r.Read(disk, sector); err == api.OK {
				most = max(most, int(data[0])|int(data[1])<<8|int(data[2])<<16|int(data[3])<<24)
			}
		}
	}
	return most
}

// mount finds the last group that is whole, and lays it anew.
func (w *twin) mount() api.Errno {
	if w.r.Off() {
		return api.ErrDead
	}
	if w.bad() > 1 {
		return api.ErrIO
	}
	for i := len(w.torn) - 1; i >= 0; i-- {
		if w.isWhole(w.torn[i]) {
			w.lasts(w.torn[i])
			break
		}
	}
	w.there, w.at = w.last.tree, w.last.at
	w.seq, w.marks = w.greatest(), 0
	if err := w.lay(); err != api.OK {
		return err
	}
	return w.mark()
}

// slotOf: the slot of a row's block with the number c within it; of its parity, if c is behind the last one.
func slotOf(g api.Geometry, seg, row, c int) int {
	parity := g.Disks - 1 - (seg*g.Rows+row)%g.Disks
	return (parity + 1 + c) % g.Disks
}

// imageOf: the sectors of a segment's writing, by rows, in each by slots.
func imageOf(g api.Geometry, seg, seq int, blocks []api.Block) [][][]byte {
	all := append(slices.Clone(blocks), make([]api.Block, places(g)+1-len(blocks))...)
	image := make([][][]byte, g.Rows)
	for row := range image {
		image[row] = make([][]byte, g.Disks)
		parity := plain(seq, api.Block{})
		for c := range g.Disks - 1 {
			data := plain(seq, all[row*(g.Disks-1)+c])
			image[row][slotOf(g, seg, row, c)] = data
			for i := 4; i < len(data); i++ {
				parity[i] ^= data[i]
			}
		}
		image[row][slotOf(g, seg, row, g.Disks-1)] = parity
	}
	return image
}

// plain: the bytes of a block's sector.
func plain(seq int, b api.Block) []byte {
	out := []byte{byte(seq), byte(seq >> 8), byte(seq >> 16), byte(seq >> 24), byte(b.Owner), byte(b.Owner >> 8), byte(b.Index), byte(b.Index >> 8)}
	return record(append(out, b.Data...)...)
}

// pair is a store and its twin.
type pair struct {
	t *testing.T
	s *Store
	r *device.Rack
	w *twin
}

// pairOf: a store of a root alone, and its twin.
func pairOf(t *testing.T, g api.Geometry) *pair {
	t.Helper()
	s, r := formatted(t, g)
	p := &pair{t: t, s: s, r: r, w: &twin{g: g, r: newRack(t, g)}}
	is(t, "the twin's format", p.w.format(), api.OK)
	p.holds("Format")
	return p
}

// both does something with both racks.
func (p *pair) both(do func(r *device.Rack)) {
	do(p.r)
	do(p.w.r)
}

// put puts a tree that fits.
func (p *pair) put(x api.Tree) {
	p.t.Helper()
	is(p.t, "Put", p.s.Put(x), api.OK)
	p.w.there, p.w.at = x, nil
	p.holds("Put")
}

// lay lays, mark marks, mount mounts both; both must answer the same, which is answered.
func (p *pair) lay() api.Errno {
	p.t.Helper()
	return p.alike("Lay", p.s, p.s.Lay(), p.w.lay())
}

func (p *pair) mark() api.Errno {
	p.t.Helper()
	return p.alike("Mark", p.s, p.s.Mark(), p.w.mark())
}

func (p *pair) mount() api.Errno {
	p.t.Helper()
	s, err := Mount(p.r)
	if (s == nil) != (err != api.OK) {
		p.t.Errorf("Mount: %v, and a store: %v", err, s != nil)
	}
	return p.alike("Mount", s, err, p.w.mount())
}

// alike: both answered the same, and have the same; the store is from now on this one, if there is one.
func (p *pair) alike(what string, s *Store, got, want api.Errno) api.Errno {
	p.t.Helper()
	is(p.t, what, got, want)
	p.holdsRack(what)
	if s != nil && got != api.ErrDead {
		p.s = s
		p.holds(what)
	}
	return got
}

// holds: the store has what its twin has.
func (p *pair) holds(what string) {
	p.t.Helper()
	var pairs [][2]int
	for seg := range p.w.g.Segs {
		if seq := p.w.last.seqs[seg]; seq > 0 {
			pairs = append(pairs, [2]int{seg, seq})
		}
	}
	uses(p.t, p.s, pairs...)
	if !slices.Equal(p.s.last.own, p.w.last.own) {
		p.t.Errorf("behind %s the store's own segments are %v, not %v", what, p.s.last.own, p.w.last.own)
	}
	if p.w.bad() < 2 && !p.r.Off() {
		holds(p.t, p.s, p.w.there)
		hasRoom(p.t, p.s)
	}
	if !p.s.Room() {
		p.t.Errorf("behind %s what is there doesn't fit", what)
	}
	p.holdsRack(what)
}

// holdsRack: both racks tell the same of all sectors, and the same disks and the power are gone.
func (p *pair) holdsRack(what string) {
	p.t.Helper()
	for disk := range p.w.g.Disks + 1 {
		for sector := range 5 + p.w.g.Rows*p.w.g.Segs {
			got, err := p.r.Read(disk, sector)
			want, wantErr := p.w.r.Read(disk, sector)
			last, _ := p.r.Lasting(disk, sector)
			wantLast, _ := p.w.r.Lasting(disk, sector)
			if err != wantErr || !bytes.Equal(got, want) || !bytes.Equal(last, wantLast) {
				p.t.Fatalf("%v: behind %s disk %d, sector %d: %v, %v, lasting %v, not %v, %v, lasting %v", p.w.g, what, disk, sector, got, err, last, want, wantErr, wantLast)
			}
		}
	}
	if p.r.Off() != p.w.r.Off() {
		p.t.Fatalf("behind %s: is the power off? %v, not %v", what, p.r.Off(), p.w.r.Off())
	}
}

// Trees are laid again and again, until all segments were in use: each segment, each Seq and each byte on the disks is as told.
func TestLayAgainAndAgain(t *testing.T) {
	for _, g := range geometries() {
		p := pairOf(t, g)
		if g.Disks == 3 && g.Rows == 1 {
			p.put(filled(t, 12, 5))
		} else {
			p.put(some(t, 9))
		}
		for i := range 40 {
			is(t, "lay", p.lay(), api.OK)
			switch {
			case i%5 == 1 && g.Rows > 1:
				p.put(some(t, byte(i)))
			case i%7 == 2:
				p.put(alone())
			case i%9 == 4:
				p.put(filled(t, 1+i%4, 5))
			}
			if i%3 == 0 {
				is(t, "mark", p.mark(), api.OK)
			}
			if i%8 == 7 {
				p.both(func(r *device.Rack) { again(t, r) })
				is(t, "mount", p.mount(), api.OK)
			}
		}
	}
}
