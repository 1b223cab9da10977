package stripe

import (
	"bytes"
	"math"
	"slices"
	"testing"

	"moraine/api"
	"moraine/bank"
	"moraine/device"
)

// array is a bank on a rack, with what both were made of.
type array struct {
	g api.Geometry
	m api.Member
	b *bank.Bank
	r *device.Rack
}

// small is the geometry of most tests: 4 slots, 2 rows of 3 blocks, 16 segments; the spare is disk 4.
func small() api.Geometry {
	return api.Geometry{Disks: 4, Rows: 2, Segs: 16}
}

// geometries are the small one, and some at the bounds.
func geometries() []api.Geometry {
	return []api.Geometry{
		small(), {Disks: 3, Rows: 3, Segs: 12}, {Disks: 3, Rows: 1, Segs: 64}, {Disks: 5, Rows: 4, Segs: 13}, {Disks: 16, Rows: 1, Segs: 12}, {Disks: 16, Rows: 4, Segs: 64},
	}
}

// unused is the member of a spare that stands for no slot.
func unused() api.Member {
	return api.Member{}
}

// members are: the spare unused, joining each slot, joined to each slot.
func members(g api.Geometry) []api.Member {
	list := []api.Member{unused()}
	for slot := range g.Disks {
		list = append(list, api.Member{Epoch: 1, Slot: slot, State: api.Joining}, api.Member{Epoch: 2, Slot: slot, State: api.Joined})
	}
	return list
}

// open is a bank of a geometry, with a member, on a new rack.
func open(t *testing.T, g api.Geometry, m api.Member) *array {
	t.Helper()
	r, err := device.New(g.Disks+1, 5+g.Rows*g.Segs)
	is(t, "New", err, api.OK)
	b, err := bank.Open(r, g, m)
	if err != api.OK || b == nil {
		t.Fatalf("Open of %v with %v: %v", g, m, err)
	}
	return &array{g: g, m: m, b: b, r: r}
}

// written is a small array, of which a segment was written with 6 blocks, and those.
func written(t *testing.T, m api.Member, seg, seq int) (*array, []api.Block) {
	t.Helper()
	a := open(t, small(), m)
	blocks := some(6, seq)
	is(t, "Write", Write(a.b, seg, seq, blocks), api.OK)
	return a, blocks
}

// disk: a slot's disk, by the plainest means.
func (a *array) disk(slot int) int {
	if a.m.State != api.Unused && a.m.Slot == slot {
		return a.g.Disks
	}
	return slot
}

// bad: is a slot bad, by the plainest means?
func (a *array) bad(slot int) bool {
	return a.r.Failed(a.disk(slot)) || a.m.State == api.Joining && a.m.Slot == slot
}

// badOnes: how many slots are bad.
func (a *array) badOnes() int {
	n := 0
	for slot := range a.g.Disks {
		if a.bad(slot) {
			n++
		}
	}
	return n
}

// gone: how many slots' disks have failed.
func (a *array) gone() int {
	n := 0
	for slot := range a.g.Disks {
		if a.r.Failed(a.disk(slot)) {
			n++
		}
	}
	return n
}

// read: what the rack reads of a slot's sector in a row.
func (a *array) read(seg, row, slot int) ([]byte, api.Errno) {
	return a.r.Read(a.disk(slot), sectorOf(a.g, seg, row))
}

// put writes bytes in a slot's sector of a row, past the bank.
func (a *array) put(t *testing.T, seg, row, slot int, data []byte) {
	t.Helper()
	is(t, "Write to the rack", a.r.Write(a.disk(slot), sectorOf(a.g, seg, row), data), api.OK)
}

// turn turns one bit of a slot's sector in a row.
func (a *array) turn(t *testing.T, seg, row, slot, bit int) {
	t.Helper()
	data, err := a.read(seg, row, slot)
	is(t, "Read of the rack", err, api.OK)
	data[bit/8] ^= 1 << (bit % 8)
	a.put(t, seg, row, slot, data)
}

// reseq gives a slot's sector in a row another Seq, and leaves what is told of it.
func (a *array) reseq(t *testing.T, seg, row, slot, seq int) {
	t.Helper()
	data, err := a.read(seg, row, slot)
	is(t, "Read of the rack", err, api.OK)
	a.put(t, seg, row, slot, slices.Concat(plain(seq, api.Block{})[:4], data[4:]))
}

// lose lets disks, if any, fail at a call that changes nothing.
func (a *array) lose(t *testing.T, disks ...int) {
	t.Helper()
	for _, disk := range disks {
		is(t, "Doom", a.r.Doom(disk, 0), api.OK)
	}
	if len(disks) > 0 {
		is(t, "Flush", a.r.Flush(disks[0]), api.ErrFailed)
	}
}

// cutOff lets the power go at a call that changes nothing.
func (a *array) cutOff(t *testing.T) {
	t.Helper()
	a.r.Arm(0)
	is(t, "Flush", a.r.Flush(0), api.ErrDead)
}

// holds holds a segment's sectors, but those of disks that have failed, against an image.
func (a *array) holds(t *testing.T, seg int, image [][][]byte) {
	t.Helper()
	for row := range image {
		for slot, want := range image[row] {
			if a.r.Failed(a.disk(slot)) {
				continue
			}
			if got, err := a.read(seg, row, slot); err != api.OK || !bytes.Equal(got, want) {
				t.Errorf("%v, %v: segment %d, row %d, slot %d: %v, %v, not %v", a.g, a.m, seg, row, slot, got, err, want)
			}
		}
	}
}

// holdsOnly holds all of a rack against images of some segments and noughts elsewhere; nothing of it may last.
func (a *array) holdsOnly(t *testing.T, images map[int][][][]byte) {
	t.Helper()
	nought := make([]byte, api.SectorSize)
	for disk := range a.g.Disks + 1 {
		for sector := range 5 + a.g.Rows*a.g.Segs {
			got, err := a.r.Read(disk, sector)
			if want := a.wants(disk, sector, images); err != api.OK || !bytes.Equal(got, want) {
				t.Errorf("%v, %v: disk %d, sector %d: %v, %v, not %v", a.g, a.m, disk, sector, got, err, want)
			}
			if last, err := a.r.Lasting(disk, sector); err != api.OK || !bytes.Equal(last, nought) {
				t.Errorf("%v, %v: disk %d, sector %d was flushed", a.g, a.m, disk, sector)
			}
		}
	}
}

// wants: what a disk's sector is to hold by images of some segments.
func (a *array) wants(disk, sector int, images map[int][][][]byte) []byte {
	image, ok := images[(sector-5)/a.g.Rows]
	for slot := range a.g.Disks {
		if ok && sector >= 5 && a.disk(slot) == disk {
			return image[(sector-5)%a.g.Rows][slot]
		}
	}
	return make([]byte, api.SectorSize)
}

// slotOf: the slot of a row's block with the number c within it; of its parity, if c is behind the last one.
func slotOf(g api.Geometry, seg, row, c int) int {
	parity := g.Disks - 1 - (seg*g.Rows+row)%g.Disks
	return (parity + 1 + c) % g.Disks
}

// sectorOf: the number of a row's sectors.
func sectorOf(g api.Geometry, seg, row int) int {
	return 5 + seg*g.Rows + row
}

// perSeg: how many blocks a segment has.
func perSeg(g api.Geometry) int {
	return g.Rows * (g.Disks - 1)
}

// plain: the bytes of a block's sector, by the plainest means.
func plain(seq int, b api.Block) []byte {
	out := []byte{byte(seq), byte(seq >> 8), byte(seq >> 16), byte(seq >> 24), byte(b.Owner), byte(b.Owner >> 8), byte(b.Index), byte(b.Index >> 8)}
	out = append(out, b.Data...)
	return append(out, make([]byte, api.SectorSize-len(out))...)
}

// imageOf: the sectors of a segment's writing, by rows, in each by slots.
func imageOf(g api.Geometry, seg, seq int, blocks []api.Block) [][][]byte {
	all := append(slices.Clone(blocks), make([]api.Block, perSeg(g)-len(blocks))...)
	image := make([][][]byte, g.Rows)
	for row := range image {
		image[row] = make([][]byte, g.Disks)
		parity := plain(seq, api.Block{})
		for c := range g.Disks - 1 {
			data := plain(seq, all[row*(g.Disks-1)+c])
			image[row][slotOf(g, seg, row, c)] = data
			for i := 4; i < len(data); i++ {
				parity[i] ^= data[i]
			}
		}
		image[row][slotOf(g, seg, row, g.Disks-1)] = parity
	}
	return image
}

// padded: blocks as they are read: with all 56 bytes, and noughts for those that lack.
func padded(g api.Geometry, blocks []api.Block) []api.Block {
	all := append(slices.Clone(blocks), make([]api.Block, perSeg(g)-len(blocks))...)
	for i := range all {
		all[i].Data = append(bytes.Clone(all[i].Data), make([]byte, api.Payload-len(all[i].Data))...)
	}
	return all
}

// some: n blocks, each unlike all others of any salt, the least and the greatest numbers and lengths among them.
func some(n, salt int) []api.Block {
	blocks := make([]api.Block, n)
	for i := range blocks {
		data := make([]byte, []int{56, 0, 1, 55, 30}[(i+salt)%5])
		for j := range data {
			data[j] = byte(7*i + 31*salt + 3*j + 1)
		}
		blocks[i] = api.Block{Owner: []int{65535, 0, 258, 1 + i}[(i+salt)%4], Index: (i*257 + salt) % 65536, Data: data}
	}
	return blocks
}

// same: are two blocks alike?
func same(a, b api.Block) bool {
	return a.Owner == b.Owner && a.Index == b.Index && bytes.Equal(a.Data, b.Data)
}

// isNone: is it a block of noughts, without data?
func isNone(b api.Block) bool {
	return same(b, api.Block{})
}

// strange are numbers that no segment, no slot and no block has.
func strange() []int {
	return []int{-1, -2, -4, 1 << 20, 1 << 32, 1<<32 + 1, 1 << 58, 1 << 62, math.MaxInt, math.MaxInt - 1, math.MinInt, math.MinInt + 1}
}

// noSegs are numbers that no segment of a geometry has.
func noSegs(g api.Geometry) []int {
	return append(strange(), g.Segs, g.Segs+1)
}

// noSlots are numbers that no slot of a geometry has; the spare's is one of them.
func noSlots(g api.Geometry) []int {
	return append(strange(), g.Disks, g.Disks+1)
}

// otherSeqs are numbers that aren't seq, though some are alike in their last bytes.
func otherSeqs(seq int) []int {
	return []int{0, seq - 1, seq + 1, seq + 1<<8, seq + 1<<24, seq + 1<<32, seq - 1<<32, -seq, math.MaxInt, math.MinInt}
}

// sets are all sets of the disks of a small array's rack.
func sets() [][]int {
	list := [][]int{nil}
	for disk := range 5 {
		for _, set := range list {
			list = append(list, append(slices.Clone(set), disk))
		}
	}
	return list
}

// is holds an error against the one that is wanted.
func is(t *testing.T, what string, got, want api.Errno) {
	t.Helper()
	if got != want {
		t.Errorf("%s: %v, not %v", what, got, want)
	}
}

// The chapter's example.
func TestExample(t *testing.T) {
	for slot := range 4 {
		a, blocks := written(t, unused(), 5, 12)
		a.lose(t, slot)
		isWhole(t, a, 5, 12)
		readsAll(t, a, 5, 12, blocks)
	}
}

// A bank that couldn't be opened has no segments.
func TestNoBank(t *testing.T) {
	none, _ := bank.Open(nil, small(), unused())
	for _, b := range []*bank.Bank{none, {}} {
		is(t, "Write", Write(b, 0, 1, nil), api.ErrRange)
		_, err := Read(b, 0, 0, 1)
		is(t, "Read", err, api.ErrRange)
		_, _, err = Whole(b, 0)
		is(t, "Whole", err, api.ErrRange)
		_, err = Missing(b, 0, 0, 1)
		is(t, "Missing", err, api.ErrRange)
		is(t, "Refill", Refill(b, 0, 0, 1), api.ErrRange)
		_, err = Sound(b, 0, 1)
		is(t, "Sound", err, api.ErrRange)
	}
}
