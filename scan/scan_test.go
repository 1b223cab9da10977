package scan

import (
	"bytes"
	"math"
	"slices"
	"testing"

	"moraine/api"
	"moraine/bank"
	"moraine/device"
	"moraine/stripe"
)

// array is a bank on a rack, with what both were made of.
type array struct {
	g api.Geometry
	m api.Member
	b *bank.Bank
	r *device.Rack
}

// small is the geometry of most tests: 4 slots, 2 rows of 3 blocks, 16 segments of 5 places; the spare is disk 4.
func small() api.Geometry {
	return api.Geometry{Disks: 4, Rows: 2, Segs: 16}
}

// geometries are the small one, and some at the bounds: the second one has the fewest places, the last one the most.
func geometries() []api.Geometry {
	return []api.Geometry{
		small(), {Disks: 3, Rows: 1, Segs: 56}, {Disks: 3, Rows: 3, Segs: 12}, {Disks: 3, Rows: 1, Segs: 64}, {Disks: 16, Rows: 1, Segs: 12}, {Disks: 16, Rows: 4, Segs: 64},
	}
}

// wrong are geometries that aren't right: each number beside its bounds and far away, and one with too few places.
func wrong() []api.Geometry {
	return []api.Geometry{
		{}, {Disks: 2, Rows: 4, Segs: 64}, {Disks: 17, Rows: 2, Segs: 16}, {Disks: 4, Rows: 0, Segs: 16}, {Disks: 4, Rows: 5, Segs: 16}, {Disks: 4, Rows: 2, Segs: 11}, {Disks: 4, Rows: 2, Segs: 65}, {Disks: 3, Rows: 1, Segs: 55},
		{Disks: -4, Rows: -2, Segs: -16}, {Disks: math.MaxInt, Rows: 2, Segs: 16}, {Disks: 4, Rows: math.MinInt, Segs: 16}, {Disks: 4, Rows: 2, Segs: math.MaxInt}, {Disks: 4 + 1<<32, Rows: 2, Segs: 16},
	}
}

// unused is the member of a spare that stands for no slot.
func unused() api.Member {
	return api.Member{}
}

// members are: the spare unused, joining each slot, joined to each slot.
func members(g api.Geometry) []api.Member {
	list := []api.Member{unused()}
	for slot := range g.Disks {
		list = append(list, api.Member{Epoch: 1, Slot: slot, State: api.Joining}, api.Member{Epoch: 2, Slot: slot, State: api.Joined})
	}
	return list
}

// open is a bank of a geometry, with a member, on a new rack.
func open(t *testing.T, g api.Geometry, m api.Member) *array {
	t.Helper()
	r, err := device.New(g.Disks+1, 5+g.Rows*g.Segs)
	is(t, "New", err, api.OK)
	b, err := bank.Open(r, g, m)
	if err != api.OK || b == nil {
		t.Fatalf("Open of %v with %v: %v", g, m, err)
	}
	return &array{g: g, m: m, b: b, r: r}
}

// disk: a slot's disk, by the plainest means.
func (a *array) disk(slot int) int {
	if a.m.State != api.Unused && a.m.Slot == slot {
		return a.g.Disks
	}
	return slot
}

// bad: is a slot bad, by the plainest means?
func (a *array) bad(slot int) bool {
	return a.r.Failed(a.disk(slot)) || a.m.State == api.Joining && a.m.Slot == slot
}

// badOnes: how many slots are bad.
func (a *array) badOnes() int {
	n := 0
	for slot := range a.g.Disks {
		if a.bad(slot) {
			n++
		}
	}
	return n
}

// puts writes a disk's sector, past the bank.
func (a *array) puts(t *testing.T, disk, sector int, data []byte) {
	t.Helper()
	is(t, "Write to the rack", a.r.Write(disk, sector, data), api.OK)
}

// gets reads a disk's sector, past the bank.
func (a *array) gets(t *testing.T, disk, sector int) []byte {
	t.Helper()
	data, err := a.r.Read(disk, sector)
	is(t, "Read of the rack", err, api.OK)
	return data
}

// writes writes a segment whose block 0 is this one, with some other blocks behind it.
func (a *array) writes(t *testing.T, seg, seq int, first api.Block) {
	t.Helper()
	blocks := []api.Block{first, {Owner: 7, Index: seg, Data: []byte{1, 2, byte(seq)}}}
	is(t, "stripe.Write", stripe.Write(a.b, seg, seq, blocks), api.OK)
}

// lays writes a segment with a summary that is right, and tells its info.
func (a *array) lays(t *testing.T, seg, seq int, s api.Summary) api.Info {
	t.Helper()
	a.writes(t, seg, seq, plain(s))
	return api.Info{Seg: seg, Seq: seq, Summary: s}
}

// lose lets disks, if any, fail at a call that changes nothing.
func (a *array) lose(t *testing.T, disks ...int) {
	t.Helper()
	for _, disk := range disks {
		is(t, "Doom", a.r.Doom(disk, 0), api.OK)
	}
	if len(disks) > 0 {
		is(t, "Write", a.r.Write(disks[0], 0, make([]byte, 64)), api.ErrFailed)
	}
}

// cutOff lets the power go at a call that changes nothing.
func (a *array) cutOff(t *testing.T) {
	t.Helper()
	a.r.Arm(0)
	is(t, "Write", a.r.Write(0, 0, make([]byte, 64)), api.ErrDead)
}

// looks holds what Look answers against infos and the greatest Seq.
func (a *array) looks(t *testing.T, most int, list ...api.Info) {
	t.Helper()
	got, n, err := Look(a.b)
	if err != api.OK || n != most || !slices.Equal(got, list) {
		t.Errorf("%v, %v: Look: %v, %d, %v, not %v, %d", a.g, a.m, got, n, err, list, most)
	}
}

// isDead holds what Look answers against that without power.
func (a *array) isDead(t *testing.T) {
	t.Helper()
	if got, n, err := Look(a.b); err != api.ErrDead || n != 0 || len(got) != 0 {
		t.Errorf("%v, %v: Look: %v, %d, %v, not ErrDead", a.g, a.m, got, n, err)
	}
}

// sectorOf: the number of a row's sectors.
func sectorOf(g api.Geometry, seg, row int) int {
	return 5 + seg*g.Rows + row
}

// slotOf: the slot of a row's block with the number c within it; of its parity, if c is behind the last one.
func slotOf(g api.Geometry, seg, row, c int) int {
	parity := g.Disks - 1 - (seg*g.Rows+row)%g.Disks
	return (parity + 1 + c) % g.Disks
}

// places: how many places a segment has.
func places(g api.Geometry) int {
	return g.Rows*(g.Disks-1) - 1
}

// plainly: a payload of numbers by the plainest means; of each its last 16 bits.
func plainly(ns ...int) []byte {
	out := make([]byte, 56)
	for i, n := range ns {
		out[2*i], out[2*i+1] = byte(n), byte(n>>8)
	}
	return out
}

// plain: a summary's block by the plainest means.
func plain(s api.Summary) api.Block {
	return api.Block{Owner: 65535, Data: plainly(21331, s.Count, s.Index, s.Blocks, s.Root)}
}

// right: is a summary right, by the plainest means, of a geometry that is?
func right(g api.Geometry, s api.Summary) bool {
	if s.Count < 1 || s.Count > g.Segs || s.Index < 0 || s.Index > s.Count-1 || s.Blocks < 0 || s.Blocks > places(g) {
		return false
	}
	if s.Index == s.Count-1 {
		return s.Root > 0 && s.Root < g.Segs*places(g)+1
	}
	return s.Root == 0
}

// raw: a sector's bytes by the plainest means.
func raw(seq int, b api.Block) []byte {
	out := []byte{byte(seq), byte(seq >> 8), byte(seq >> 16), byte(seq >> 24), byte(b.Owner), byte(b.Owner >> 8), byte(b.Index), byte(b.Index >> 8)}
	out = append(out, b.Data...)
	return append(out, make([]byte, 64-len(out))...)
}

// alone is the summary of a group of one segment.
func alone(root int) api.Summary {
	return api.Summary{Count: 1, Root: root}
}

// strange are numbers that no part of a summary is; some are alike with small ones in their last bytes.
func strange() []int {
	return []int{-1, -2, -65535, -65536, 65536, 65537, 1 << 32, 1<<32 + 1, 1 << 62, math.MaxInt, math.MaxInt - 1, math.MinInt, math.MinInt + 1}
}

// sets are all sets of the disks of a small array's rack.
func sets() [][]int {
	list := [][]int{nil}
	for disk := range 5 {
		for _, set := range list {
			list = append(list, append(slices.Clone(set), disk))
		}
	}
	return list
}

// same: are two blocks alike?
func same(a, b api.Block) bool {
	return a.Owner == b.Owner && a.Index == b.Index && bytes.Equal(a.Data, b.Data)
}

// is holds an error against the one that is wanted.
func is(t *testing.T, what string, got, want api.Errno) {
	t.Helper()
	if got != want {
		t.Errorf("%s: %v, not %v", what, got, want)
	}
}

// The chapter's example, from infos and from segments.
func TestExample(t *testing.T) {
	list := []api.Info{
		{Seg: 3, Seq: 7, Summary: api.Summary{Count: 2, Index: 0, Blocks: 5}},
		{Seg: 1, Seq: 8, Summary: api.Summary{Count: 2, Index: 1, Blocks: 4, Root: 9}},
	}
	want := api.Group{Seq: 7, Root: 9, Segs: []int{3, 1}}
	isGroups(t, list, want)
	a := open(t, small(), unused())
	for _, info := range list {
		block, ok := PutSummary(a.g, info.Summary)
		if !ok {
			t.Fatal("PutSummary")
		}
		a.writes(t, info.Seg, info.Seq, block)
	}
	a.looks(t, 8, list[1], list[0])
	found, _, _ := Look(a.b)
	isGroups(t, found, want)
}

// A bank that couldn't be opened has no power.
func TestNoBank(t *testing.T) {
	none, _ := bank.Open(nil, small(), unused())
	for _, b := range []*bank.Bank{none, {}} {
		a := &array{b: b}
		a.isDead(t)
	}
}
