package bank

import (
	"bytes"
	"math"
	"slices"
	"testing"

	"moraine/api"
	"moraine/device"
)

// small is the geometry of most tests: 4 slots, the spare is disk 4, 37 sectors.
func small() api.Geometry {
	return api.Geometry{Disks: 4, Rows: 2, Segs: 16}
}

// smallSectors is how many sectors its disks have.
const smallSectors = 37

// full is a sector's bytes, all alike.
func full(x byte) []byte {
	return bytes.Repeat([]byte{x}, api.SectorSize)
}

// member is a member of the third epoch.
func member(slot, state int) api.Member {
	return api.Member{Epoch: 3, Slot: slot, State: state}
}

// members are all members of a small array: the spare unused, joining each slot, joined to each slot.
func members() []api.Member {
	list := []api.Member{member(0, api.Unused)}
	for slot := range 4 {
		list = append(list, member(slot, api.Joining), member(slot, api.Joined))
	}
	return list
}

// strange are numbers that no slot and no sector has.
func strange() []int {
	return []int{-1, -2, -4, 1 << 20, 1 << 32, 1<<32 + 1, 1 << 58, math.MaxInt, math.MaxInt - 1, math.MinInt, math.MinInt + 1}
}

// rack is a new rack.
func rack(t *testing.T, disks, sectors int) *device.Rack {
	t.Helper()
	r, err := device.New(disks, sectors)
	if err != api.OK {
		t.Fatal(disks, sectors, err)
	}
	return r
}

// open is a bank of the small geometry on a new rack, and that rack.
func open(t *testing.T, m api.Member) (*Bank, *device.Rack) {
	t.Helper()
	r := rack(t, 5, smallSectors)
	b, err := Open(r, small(), m)
	if err != api.OK || b == nil {
		t.Fatalf("Open with %v: %v, %v", m, b, err)
	}
	return b, r
}

// is holds an error against the one that is wanted.
func is(t *testing.T, what string, got, want api.Errno) {
	t.Helper()
	if got != want {
		t.Errorf("%s: %v, not %v", what, got, want)
	}
}

// fill writes a byte of its own into each disk's sector: its number and 1.
func fill(t *testing.T, r *device.Rack, sector int) {
	t.Helper()
	disks, _ := r.Size()
	for disk := range disks {
		is(t, "Write", r.Write(disk, sector, full(byte(disk+1))), api.OK)
	}
}

// lose lets disks, if any, fail at a call that changes nothing.
func lose(t *testing.T, r *device.Rack, disks ...int) {
	t.Helper()
	if len(disks) == 0 {
		return
	}
	for _, disk := range disks {
		is(t, "Doom", r.Doom(disk, 0), api.OK)
	}
	is(t, "Flush", r.Flush(disks[0]), api.ErrFailed)
	for _, disk := range disks {
		if !r.Failed(disk) {
			t.Errorf("disk %d hasn't failed", disk)
		}
	}
}

// sets are all sets of disks.
func sets() [][]int {
	list := [][]int{nil}
	for disk := range 5 {
		for _, set := range list {
			list = append(list, append(slices.Clone(set), disk))
		}
	}
	return list
}

// cutOff lets the power go at a call that changes nothing.
func cutOff(t *testing.T, r *device.Rack) {
	t.Helper()
	r.Arm(0)
	is(t, "Flush", r.Flush(0), api.ErrDead)
}

// diskOf: a slot's disk by the plainest means.
func diskOf(slot int, m api.Member) int {
	if m.State > 0 && m.Slot == slot {
		return 4
	}
	return slot
}

// inOrder: a small array's disks, in their order: each slot's, then the spare, if it is none of theirs.
func inOrder(m api.Member) []int {
	list := []int{0, 1, 2, 3, 4}
	if m.State > 0 {
		list[m.Slot] = 4
		list = list[:4]
	}
	return list
}

// reads holds what a disk's sector reads against bytes that are all alike.
func reads(t *testing.T, r *device.Rack, disk, sector int, want byte) {
	t.Helper()
	if b, err := r.Read(disk, sector); err != api.OK || !bytes.Equal(b, full(want)) {
		t.Errorf("disk %d, sector %d: %v, %v, not all %d", disk, sector, b, err, want)
	}
}

// lasting: the first byte of what lasts of a disk's sector.
func lasting(t *testing.T, r *device.Rack, disk, sector int) byte {
	t.Helper()
	b, err := r.Lasting(disk, sector)
	if err != api.OK || len(b) != api.SectorSize {
		t.Fatal(disk, sector, b, err)
	}
	return b[0]
}

func TestExample(t *testing.T) {
	b, r := open(t, member(1, api.Joined))
	is(t, "Write", b.Write(1, 7, full(9)), api.OK)
	reads(t, r, 4, 7, 9)
	reads(t, r, 1, 7, 0)
	if got, err := b.Read(1, 7); err != api.OK || !bytes.Equal(got, full(9)) {
		t.Error(got, err)
	}
}

func TestOpen(t *testing.T) {
	for _, c := range []struct {
		g       api.Geometry
		sectors int
	}{
		{small(), 37}, {api.Geometry{Disks: 3, Rows: 4, Segs: 12}, 53}, {api.Geometry{Disks: 16, Rows: 4, Segs: 64}, 261}, {api.Geometry{Disks: 16, Rows: 1, Segs: 12}, 17},
	} {
		r := rack(t, c.g.Disks+1, c.sectors)
		for state := range 3 {
			for slot := range c.g.Disks {
				m := member(slot, state)
				b, err := Open(r, c.g, m)
				if err != api.OK || b == nil {
					t.Fatalf("Open of %v with %v: %v, %v", c.g, m, b, err)
				}
				if b.Geo() != c.g || b.Member() != m || len(b.Bad()) != state%2 || b.Off() || b.SpareFailed() {
					t.Errorf("Open of %v with %v: a bank of %v, %v, %v bad", c.g, m, b.Geo(), b.Member(), b.Bad())
				}
			}
		}
	}
}

// isNone holds an answer of Open against ErrGeo and nil.
func isNone(t *testing.T, r *device.Rack, g api.Geometry, m api.Member) {
	t.Helper()
	if b, err := Open(r, g, m); b != nil || err != api.ErrGeo {
		t.Errorf("Open of %v with %v: %v, %v", g, m, b, err)
	}
}

// Of geometries that aren't right the rack has just what they would need.
func TestOpenOfNoGeometry(t *testing.T) {
	for _, g := range []api.Geometry{
		{Disks: 2, Rows: 4, Segs: 64}, {Disks: 4, Rows: 0, Segs: 16}, {Disks: 4, Rows: 5, Segs: 16}, {Disks: 4, Rows: 2, Segs: 11}, {Disks: 4, Rows: 2, Segs: 65}, {Disks: 3, Rows: 1, Segs: 12}, {Disks: 3, Rows: 2, Segs: 12},
	} {
		isNone(t, rack(t, g.Disks+1, 5+g.Rows*g.Segs), g, api.Member{})
	}
	r := rack(t, 17, 261)
	isNone(t, r, api.Geometry{Disks: 17, Rows: 4, Segs: 64}, api.Member{})
	isNone(t, r, api.Geometry{}, api.Member{})
	for _, n := range strange() {
		isNone(t, r, api.Geometry{Disks: n, Rows: 4, Segs: 64}, api.Member{})
		isNone(t, r, api.Geometry{Disks: 16, Rows: n, Segs: 64}, api.Member{})
		isNone(t, r, api.Geometry{Disks: 16, Rows: 4, Segs: n}, api.Member{})
		isNone(t, r, api.Geometry{Disks: n, Rows: n, Segs: n}, api.Member{})
	}
}

func TestOpenOnAnotherRack(t *testing.T) {
	for disks := 1; disks <= 17; disks++ {
		for sectors := 1; sectors <= 80; sectors++ {
			if disks != 5 || sectors != smallSectors {
				isNone(t, rack(t, disks, sectors), small(), api.Member{})
			}
		}
	}
	isNone(t, nil, small(), api.Member{})
}

func TestOpenWithNoMember(t *testing.T) {
	r := rack(t, 5, smallSectors)
	for _, state := range append(strange(), 3, 4, 5, 1<<32+2) {
		for _, slot := range []int{-1, 0, 3, 4} {
			isNone(t, r, small(), member(slot, state))
		}
	}
	for _, slot := range append(strange(), 4, 5, 16) {
		isNone(t, r, small(), member(slot, api.Joining))
		isNone(t, r, small(), member(slot, api.Joined))
	}
}

// With State 0 the Slot says nothing, and the Epoch never does.
func TestOpenWithAnySlotUnused(t *testing.T) {
	for _, n := range append(strange(), 0, 1, 3, 4, 5) {
		for _, m := range []api.Member{{Epoch: n, Slot: n}, {Slot: n}, {Epoch: n}} {
			b, r := open(t, m)
			if b.Member() != m || len(b.Bad()) != 0 {
				t.Error(m, b.Member(), b.Bad())
			}
			fill(t, r, 0)
			for slot := range 4 {
				if got, err := b.Read(slot, 0); err != api.OK || !bytes.Equal(got, full(byte(slot+1))) {
					t.Error(m, slot, got, err)
				}
			}
		}
		m := api.Member{Epoch: n, Slot: 2, State: api.Joined}
		if b, _ := open(t, m); b.Member() != m {
			t.Error(m, b.Member())
		}
	}
}

// What is on the rack, power and disks among it, is no matter to Open, and is left as it is.
func TestOpenTouchesNothing(t *testing.T) {
	r := rack(t, 5, smallSectors)
	fill(t, r, 3)
	r.Arm(3)
	lose(t, r, 4)
	for _, m := range members() {
		if b, err := Open(r, small(), m); err != api.OK || !b.SpareFailed() {
			t.Error(m, err)
		}
	}
	is(t, "the second call", r.Flush(0), api.OK)
	is(t, "the third call", r.Flush(1), api.OK)
	is(t, "the fourth call", r.Flush(1), api.ErrDead)
	if lasting(t, r, 0, 3) != 1 || lasting(t, r, 2, 3) != 0 {
		t.Error("Open has flushed a disk, or taken what was cached")
	}
	if b, err := Open(r, small(), member(2, api.Joining)); err != api.OK || !b.Off() {
		t.Error(err)
	}
}

// A slot's disk is the one with its number, or the spare, by each member.
func TestReadAndWriteASlotsDisk(t *testing.T) {
	for _, m := range members() {
		for slot := range 4 {
			for _, sector := range []int{0, 4, smallSectors - 1} {
				b, r := open(t, m)
				fill(t, r, sector)
				if got, err := b.Read(slot, sector); err != api.OK || !bytes.Equal(got, full(byte(diskOf(slot, m)+1))) {
					t.Errorf("%v: Read(%d, %d): %v, %v", m, slot, sector, got, err)
				}
				is(t, "Write", b.Write(slot, sector, full(77)), api.OK)
				for disk := range 5 {
					want := byte(disk + 1)
					if disk == diskOf(slot, m) {
						want = 77
					}
					reads(t, r, disk, sector, want)
				}
			}
		}
	}
}

// What is written is cached by its disk alone.
func TestWriteCaches(t *testing.T) {
	b, r := open(t, member(2, api.Joined))
	is(t, "Write", b.Write(2, 6, full(5)), api.OK)
	if lasting(t, r, 4, 6) != 0 {
		t.Error("it lasts")
	}
	r.Restore(nil)
	reads(t, r, 4, 6, 0)
}

// refuses holds the answers of a Read and a Write against an error.
func refuses(t *testing.T, b *Bank, slot, sector int, want api.Errno) {
	t.Helper()
	if got, err := b.Read(slot, sector); err != want || len(got) != 0 {
		t.Errorf("Read(%d, %d): %v, %v, not %v", slot, sector, got, err, want)
	}
	is(t, "Write", b.Write(slot, sector, full(9)), want)
}

func TestNoSuchSlotOrSector(t *testing.T) {
	for _, m := range members() {
		b, r := open(t, m)
		for _, n := range strange() {
			refuses(t, b, n, 0, api.ErrSector)
			refuses(t, b, n, n, api.ErrSector)
			refuses(t, b, 0, n, api.ErrSector)
			refuses(t, b, m.Slot, n, api.ErrSector)
		}
		for _, slot := range []int{4, 5, 16, 17} {
			refuses(t, b, slot, 0, api.ErrSector)
		}
		refuses(t, b, 3, smallSectors, api.ErrSector)
		for _, n := range []int{0, 1, 63, 65, 128} {
			is(t, "Write", b.Write(3, 0, make([]byte, n)), api.ErrSector)
		}
		is(t, "Write", b.Write(3, 0, nil), api.ErrSector)
		// None of them was a call, and nothing is changed.
		r.Arm(1)
		is(t, "Flush", r.Flush(0), api.OK)
		for disk := range 5 {
			reads(t, r, disk, 0, 0)
		}
	}
}

func TestReadAndWriteOfAFailedDisk(t *testing.T) {
	for _, m := range members() {
		for disk := range 5 {
			b, r := open(t, m)
			lose(t, r, disk)
			for slot := range 4 {
				if diskOf(slot, m) == disk {
					refuses(t, b, slot, 5, api.ErrFailed)
					refuses(t, b, slot, smallSectors, api.ErrSector)
					continue
				}
				is(t, "Write", b.Write(slot, 5, full(3)), api.OK)
				if got, err := b.Read(slot, 5); err != api.OK || !bytes.Equal(got, full(3)) {
					t.Error(m, disk, slot, got, err)
				}
			}
			refuses(t, b, 4, 5, api.ErrSector)
		}
	}
}

// Without power a slot's disk answers ErrDead, whatever it is asked for; of no slot there is no disk that could.
func TestReadAndWriteWithoutPower(t *testing.T) {
	b, r := open(t, member(1, api.Joining))
	lose(t, r, 2)
	cutOff(t, r)
	for slot := range 4 {
		refuses(t, b, slot, 5, api.ErrDead)
		refuses(t, b, slot, smallSectors, api.ErrDead)
		refuses(t, b, slot, -1, api.ErrDead)
		is(t, "Write", b.Write(slot, 5, nil), api.ErrDead)
	}
	refuses(t, b, 4, 5, api.ErrSector)
	refuses(t, b, -1, 5, api.ErrSector)
}

func TestWriteAsThePowerGoes(t *testing.T) {
	b, r := open(t, member(1, api.Joined))
	r.Arm(1)
	is(t, "Write", b.Write(1, 5, full(1)), api.OK)
	is(t, "Write", b.Write(1, 5, full(2)), api.ErrDead)
	if !b.Off() {
		t.Error("the power is on")
	}
}

func TestFlush(t *testing.T) {
	for _, m := range members() {
		b, r := open(t, m)
		fill(t, r, 8)
		is(t, "Flush", b.Flush(), api.OK)
		for disk := range 5 {
			want := byte(0)
			if slices.Contains(inOrder(m), disk) {
				want = byte(disk + 1)
			}
			if got := lasting(t, r, disk, 8); got != want {
				t.Errorf("%v: of disk %d lasts %d, not %d", m, disk, got, want)
			}
		}
	}
}

// The power goes before the first disk, between two, behind the last one: those ahead of that are flushed.
func TestFlushAsThePowerGoes(t *testing.T) {
	for _, m := range members() {
		order := inOrder(m)
		for calls := range len(order) + 1 {
			b, r := open(t, m)
			fill(t, r, 8)
			r.Arm(calls)
			if calls < len(order) {
				is(t, "Flush", b.Flush(), api.ErrDead)
			} else {
				is(t, "Flush", b.Flush(), api.OK)
			}
			if b.Off() != (calls < len(order)) {
				t.Error(m, calls, b.Off())
			}
			for i, disk := range order {
				if got := lasting(t, r, disk, 8); got != 0 != (i < calls) {
					t.Errorf("%v, %d calls: of disk %d lasts %d", m, calls, disk, got)
				}
			}
			if calls == len(order) {
				is(t, "the next one", b.Flush(), api.ErrDead)
			}
			is(t, "without power", b.Flush(), api.ErrDead)
		}
	}
}

// A disk that has failed takes its turn, and the others are flushed.
func TestFlushOfFailedDisks(t *testing.T) {
	for _, m := range members() {
		for lost := range 5 {
			b, r := open(t, m)
			fill(t, r, 8)
			lose(t, r, lost)
			r.Arm(len(inOrder(m)))
			is(t, "Flush", b.Flush(), api.OK)
			for _, disk := range inOrder(m) {
				if got := lasting(t, r, disk, 8); got != 0 != (disk != lost) {
					t.Errorf("%v: of disk %d lasts %d", m, disk, got)
				}
			}
			is(t, "Flush", b.Flush(), api.ErrDead)
		}
	}
}

// Each disk that is to be flushed is one call, in order: one that is doomed fails at its turn.
func TestFlushTakesTurns(t *testing.T) {
	for _, m := range members() {
		order := inOrder(m)
		for i, disk := range order {
			b, r := open(t, m)
			fill(t, r, 8)
			is(t, "Doom", r.Doom(disk, i), api.OK)
			is(t, "Flush", b.Flush(), api.OK)
			if lasting(t, r, disk, 8) != 0 || !r.Failed(disk) {
				t.Errorf("%v: disk %d was flushed ahead of its turn", m, disk)
			}
			b, r = open(t, m)
			fill(t, r, 8)
			is(t, "Doom", r.Doom(disk, i+1), api.OK)
			is(t, "Flush", b.Flush(), api.OK)
			if lasting(t, r, disk, 8) == 0 || r.Failed(disk) != (i+1 < len(order)) {
				t.Errorf("%v: disk %d was flushed behind its turn", m, disk)
			}
		}
	}
}

// With every set of disks failed: a slot is bad, if its disk is one of them, or it is the one that is Joining.
func TestBad(t *testing.T) {
	for _, m := range members() {
		for _, lost := range sets() {
			b, r := open(t, m)
			lose(t, r, lost...)
			var want []int
			for slot := range 4 {
				if m.State == api.Joining && m.Slot == slot || slices.Contains(lost, diskOf(slot, m)) {
					want = append(want, slot)
				}
			}
			if got := b.Bad(); !slices.Equal(got, want) {
				t.Errorf("%v, lost %v: %v, not %v", m, lost, got, want)
			}
			if b.SpareFailed() != slices.Contains(lost, 4) {
				t.Errorf("%v, lost %v: SpareFailed: %v", m, lost, b.SpareFailed())
			}
			cutOff(t, r)
			if got := b.Bad(); !slices.Equal(got, want) {
				t.Errorf("%v, lost %v, without power: %v, not %v", m, lost, got, want)
			}
		}
	}
}

// The edges by name.
func TestBadOfTheSpare(t *testing.T) {
	for _, c := range []struct {
		state int
		lost  []int
		want  []int
	}{
		{api.Unused, nil, nil},
		{api.Unused, []int{4}, nil},
		{api.Unused, []int{2}, []int{2}},
		{api.Unused, []int{0, 1, 2, 3}, []int{0, 1, 2, 3}},
		{api.Joining, nil, []int{2}},
		{api.Joining, []int{2}, []int{2}},
		{api.Joining, []int{2, 4}, []int{2}},
		{api.Joining, []int{3, 0}, []int{0, 2, 3}},
		{api.Joined, nil, nil},
		{api.Joined, []int{2}, nil},
		{api.Joined, []int{4}, []int{2}},
		{api.Joined, []int{4, 1}, []int{1, 2}},
	} {
		b, r := open(t, member(2, c.state))
		lose(t, r, c.lost...)
		if got := b.Bad(); !slices.Equal(got, c.want) {
			t.Errorf("%v: %v", c, got)
		}
	}
}

func TestOffAndSpareFailed(t *testing.T) {
	b, r := open(t, api.Member{})
	if b.Off() || b.SpareFailed() {
		t.Error("at first")
	}
	lose(t, r, 3)
	if b.Off() || b.SpareFailed() {
		t.Error("with another disk failed")
	}
	lose(t, r, 4)
	if b.Off() || !b.SpareFailed() {
		t.Error("with the spare failed")
	}
	cutOff(t, r)
	if !b.Off() || !b.SpareFailed() {
		t.Error("without power")
	}
	r.Restore(nil)
	if b.Off() || !b.SpareFailed() {
		t.Error("with power again")
	}
}
