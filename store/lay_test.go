package store

import (
	"bytes"
	"slices"
	"testing"

	"moraine/api"
	"moraine/device"
)

// Nothing new: the list alone is laid, each time; data stays where it is.
func TestLayOfNothingNew(t *testing.T) {
	s, r := stored(t, small(), some(t, 4))
	uses(t, s, [2]int{1, 2}, [2]int{2, 3}, [2]int{3, 4}, [2]int{4, 5})
	is(t, "Lay", s.Lay(), api.OK)
	uses(t, s, [2]int{0, 6}, [2]int{1, 2}, [2]int{2, 3}, [2]int{5, 7})
	is(t, "Lay", s.Lay(), api.OK)
	uses(t, s, [2]int{1, 2}, [2]int{2, 3}, [2]int{3, 8}, [2]int{4, 9})
	holds(t, s, some(t, 4))
	again(t, r)
	s = mounts(t, r)
	holds(t, s, some(t, 4))
	uses(t, s, [2]int{0, 10}, [2]int{1, 2}, [2]int{2, 3}, [2]int{5, 11})
}

// New blocks: one, as many as a segment holds, one more, as many as two hold.
func TestLayOfSomeBlocks(t *testing.T) {
	for blocks, want := range map[int][][2]int{
		2:  {{1, 2}, {2, 3}},
		5:  {{1, 2}, {2, 3}},
		6:  {{1, 2}, {2, 3}, {3, 4}},
		10: {{1, 2}, {2, 3}, {3, 4}},
	} {
		s, r := formatted(t, small())
		uses(t, s, [2]int{0, 1})
		is(t, "Put", s.Put(filled(t, blocks, 5)), api.OK)
		uses(t, s, [2]int{0, 1})
		is(t, "Lay", s.Lay(), api.OK)
		uses(t, s, want...)
		again(t, r)
		holds(t, mounts(t, r), filled(t, blocks, 5))
	}
	// One alone is the root's own.
	s, _ := stored(t, small(), grown(t, api.Op{Kind: api.OpCreate, Path: "/a"}))
	uses(t, s, [2]int{1, 2}, [2]int{2, 3})
}

// Two slots are bad ahead of a Lay: ErrIO; what lasts, and what is there, is as it was, and new blocks are new still.
func TestLayWithTwoBadSlots(t *testing.T) {
	for a := range 4 {
		for b := range a {
			s, r := stored(t, small(), some(t, 4))
			is(t, "Put", s.Put(some(t, 5)), api.OK)
			lose(t, r, a, b)
			for range 2 {
				is(t, "Lay", s.Lay(), api.ErrIO)
				uses(t, s, [2]int{1, 2}, [2]int{2, 3}, [2]int{3, 4}, [2]int{4, 5})
				holds(t, s, some(t, 5))
				is(t, "Mark", s.Mark(), api.ErrIO)
			}
			if !s.Room() {
				t.Error("what is there doesn't fit any more")
			}
			again(t, r)
			refuses(t, "without two disks", r, api.ErrIO)
		}
	}
}

// A slot that is joining is bad: with another one more it is ErrIO; alone it does no harm, and is written.
func TestLayWhileJoining(t *testing.T) {
	s, r := stored(t, small(), some(t, 4))
	lose(t, r, 2)
	s.Bank().Join(api.Member{Epoch: 1, Slot: 2, State: api.Joining})
	lays(t, s, some(t, 5))
	for seg, seq := range map[int]byte{0: 6, 5: 7} {
		for row := range 2 {
			if got := gets(t, r, 4, 5+2*seg+row); got[0] != seq {
				t.Errorf("the spare has %v", got)
			}
		}
	}
	is(t, "Mark", s.Mark(), api.OK)
	if !bytes.Equal(gets(t, r, 4, 2), markBytes(6)) {
		t.Error("the spare has no mark")
	}
	s, r = stored(t, small(), some(t, 4))
	lose(t, r, 2)
	s.Bank().Join(api.Member{Epoch: 1, Slot: 1, State: api.Joining})
	is(t, "Lay", s.Lay(), api.ErrIO)
	is(t, "Mark", s.Mark(), api.ErrIO)
	s.Bank().Join(api.Member{})
	is(t, "Lay", s.Lay(), api.OK)
	is(t, "Mark", s.Mark(), api.OK)
	holds(t, s, some(t, 4))
}

// Without power: ErrDead; the store goes on with power, and no Seq is used twice, though no sector was kept.
func TestLayWithoutPower(t *testing.T) {
	for calls := range 37 {
		s, r := stored(t, small(), some(t, 4))
		before := s.Live()
		is(t, "Put", s.Put(some(t, 5)), api.OK)
		r.Arm(calls)
		is(t, "Lay", s.Lay(), api.ErrDead)
		is(t, "Lay", s.Lay(), api.ErrDead)
		is(t, "Mark", s.Mark(), api.ErrDead)
		if !slices.Equal(s.Live(), before) || s.Seq(1) != 2 {
			t.Errorf("behind %d calls: %v", calls, s.Live())
		}
		holds(t, s, some(t, 5))
		r.Restore(nil)
		is(t, "Lay", s.Lay(), api.OK)
		if first, used := s.Seq(0), 1+min(4, calls/8+1); first <= 5+used-1 {
			t.Errorf("behind %d calls: the Seq %d was used before", calls, first)
		}
		holds(t, s, some(t, 5))
		again(t, r)
		holds(t, mounts(t, r), some(t, 5))
	}
}

// Marks come by turns to sector 2 and sector 1, each with the first Seq of the last group; behind a Lay that was torn, that is the one ahead of it.
func TestMark(t *testing.T) {
	s, r := stored(t, small(), some(t, 4))
	want := [2]int{1, 1}
	for i, first := range []int{2, 2, 6, 8, 10, 12} {
		if i > 1 {
			is(t, "Lay", s.Lay(), api.OK)
		}
		is(t, "Mark", s.Mark(), api.OK)
		want[i%2] = first
		for disk := range 5 {
			for n, seq := range want {
				if got, _ := r.Lasting(disk, 2-n); !bytes.Equal(got, markBytes(seq)) {
					t.Errorf("mark %d: disk %d, sector %d: %v, not of %d", i, disk, 2-n, got, seq)
				}
			}
		}
	}
	r.Arm(3)
	is(t, "Lay", s.Lay(), api.ErrDead)
	r.Restore(nil)
	is(t, "Mark", s.Mark(), api.OK)
	if got := gets(t, r, 3, 2); !bytes.Equal(got, markBytes(12)) {
		t.Errorf("behind a torn Lay: %v", got)
	}
}

// A Mark changes nothing but marks: neither what is there, nor what lasts, nor what is new.
func TestMarkChangesNothingElse(t *testing.T) {
	s, r := stored(t, small(), some(t, 4))
	is(t, "Put", s.Put(some(t, 5)), api.OK)
	is(t, "Mark", s.Mark(), api.OK)
	uses(t, s, [2]int{1, 2}, [2]int{2, 3}, [2]int{3, 4}, [2]int{4, 5})
	holds(t, s, some(t, 5))
	again(t, r)
	holds(t, mounts(t, r), some(t, 4))
}

// A disk of a slot fails at some call of a Mark: no harm; a second one: ErrIO.
func TestMarkWithBadSlots(t *testing.T) {
	for calls := range 12 {
		s, r := stored(t, small(), some(t, 4))
		is(t, "Doom", r.Doom(1, calls), api.OK)
		is(t, "Mark", s.Mark(), api.OK)
		is(t, "Doom", r.Doom(2, calls), api.OK)
		err := s.Mark()
		if (err == api.ErrIO) != (r.Failed(1) && r.Failed(2)) {
			t.Errorf("behind %d calls: %v", calls, err)
		}
		is(t, "Mark", s.Mark(), map[bool]api.Errno{true: api.ErrIO, false: api.OK}[r.Failed(1) && r.Failed(2)])
	}
}

// The power goes in a Lay. If nothing of it is kept, the next mount uses the same Seqs; if all is that was written, it uses greater ones.
func TestSeqsBehindAPowerCut(t *testing.T) {
	for _, kept := range []bool{false, true} {
		s, r := stored(t, small(), some(t, 4))
		is(t, "Put", s.Put(some(t, 5)), api.OK)
		r.Arm(11)
		is(t, "Lay", s.Lay(), api.ErrDead)
		keeps, first := []int{0}, 6
		if kept {
			keeps, first = []int{1}, 8
		}
		r.Restore(keeps)
		s = mounts(t, r)
		uses(t, s, [2]int{0, first}, [2]int{1, 2}, [2]int{2, 3}, [2]int{5, first + 1})
		holds(t, s, some(t, 4))
	}
}

// A torn group that would be whole without one disk isn't found any more, once a mount found the one ahead of it.
func TestTornGroupIsNeverFoundLater(t *testing.T) {
	for lacks := range 4 {
		for _, data := range [][2]api.Tree{{some(t, 4), some(t, 5)}, {filled(t, 3, 5), alone()}, {alone(), filled(t, 3, 5)}} {
			s, r := stored(t, small(), data[0])
			is(t, "Put", s.Put(data[1]), api.OK)
			// All of the group is written but what one disk has of it.
			sectors := make(map[int][]byte)
			for sector := 5; sector < 37; sector++ {
				sectors[sector] = gets(t, r, lacks, sector)
			}
			is(t, "Lay", s.Lay(), api.OK)
			for sector, b := range sectors {
				puts(t, r, lacks, sector, b)
			}
			holds(t, mounts(t, r), data[0])
			again(t, r)
			lose(t, r, lacks)
			holds(t, mounts(t, r), data[0])
		}
	}
}

// Behind each call that writes, all that it wrote lasts.
func TestAllThatIsWrittenLasts(t *testing.T) {
	s, r := formatted(t, small())
	lasts := func(what string) {
		t.Helper()
		for disk := range 5 {
			for sector := range 37 {
				if got, _ := r.Lasting(disk, sector); !bytes.Equal(got, gets(t, r, disk, sector)) {
					t.Errorf("%s: disk %d, sector %d doesn't last", what, disk, sector)
				}
			}
		}
	}
	lasts("Format")
	lays(t, s, some(t, 4))
	lasts("Lay")
	is(t, "Mark", s.Mark(), api.OK)
	lasts("Mark")
	mounts(t, r)
	lasts("Mount")
}

// A spare that has failed is no bad slot.
func TestWithoutTheSpare(t *testing.T) {
	s, r := formatted(t, small())
	lose(t, r, 4)
	lays(t, s, some(t, 4))
	is(t, "Mark", s.Mark(), api.OK)
	lose(t, r, 1)
	lays(t, s, some(t, 5))
	is(t, "Mark", s.Mark(), api.OK)
	again(t, r)
	holds(t, mounts(t, r), some(t, 5))
}

// The member's slot is told by the newest member alone, though one disk alone has it: what it says lasts from the next mount on, whichever disk fails then.
func TestMemberOfOneDiskAlone(t *testing.T) {
	for has := range 5 {
		for lost := range 5 {
			x := madeOf(t, small(), some(t, 4))
			x.slots[1] = 4
			r := x.rack()
			lose(t, r, 1)
			for disk := range 5 {
				if disk != 1 {
					puts(t, r, disk, 4, memberBytes(1, 1, api.Joining))
				}
			}
			if has == 1 || lost == 1 {
				continue
			}
			puts(t, r, has, 3, memberBytes(2, 1, api.Joined))
			holds(t, mounts(t, r), x.tree)
			again(t, r)
			lose(t, r, lost)
			holds(t, mounts(t, r), x.tree)
		}
	}
}

// The power is on and off: what needs no call of the rack answers as ever.
func TestWithoutPower(t *testing.T) {
	s, r := stored(t, small(), some(t, 4))
	r.Arm(0)
	holds(t, s, some(t, 4))
	is(t, "Mark", s.Mark(), api.ErrDead)
	refusesDead(t, s)
	uses(t, s, [2]int{1, 2}, [2]int{2, 3}, [2]int{3, 4}, [2]int{4, 5})
	if !s.Room() || s.Bank() == nil || !s.Bank().Off() {
		t.Error("Room, or Bank, without power")
	}
}

// The bank is the store's own one.
func TestBank(t *testing.T) {
	s, r := formatted(t, small())
	is(t, "Write", s.Bank().Write(1, 36, record(9)), api.OK)
	if !bytes.Equal(gets(t, r, 1, 36), record(9)) || s.Bank() != s.Bank() {
		t.Error("it is another bank")
	}
	s = mounts(t, r)
	s.Bank().Join(api.Member{Slot: 3, State: api.Joined})
	is(t, "Write", s.Bank().Write(3, 36, record(8)), api.OK)
	if !bytes.Equal(gets(t, r, 4, 36), record(8)) {
		t.Error("it is another bank")
	}
}

// Two stores over racks of their own have nothing to do with each other.
func TestTwoStores(t *testing.T) {
	a, _ := stored(t, small(), some(t, 4))
	b, r := stored(t, small(), filled(t, 3, 5))
	lays(t, a, some(t, 6))
	holds(t, b, filled(t, 3, 5))
	holds(t, a, some(t, 6))
	lose(t, r, 0, 1)
	is(t, "Lay", b.Lay(), api.ErrIO)
	is(t, "Lay", a.Lay(), api.OK)
	var none *device.Rack
	refuses(t, "without a rack", none, api.ErrDead)
}
