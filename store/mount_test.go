package store

import (
	"bytes"
	"slices"
	"testing"

	"moraine/api"
	"moraine/device"
)

// The bytes of records.
func superBytes(g api.Geometry) []byte {
	return record(77, 79, 82, 1, byte(g.Disks), byte(g.Rows), byte(g.Segs))
}

func markBytes(seq int) []byte {
	return record(77, 79, 82, 2, byte(seq), byte(seq>>8), byte(seq>>16), byte(seq>>24))
}

func memberBytes(epoch, slot, state int) []byte {
	return record(77, 79, 82, 3, byte(epoch), byte(epoch>>8), byte(epoch>>16), byte(epoch>>24), byte(slot), byte(state))
}

// What is made by plain means is mounted, and laid anew in the first free segments.
func TestMount(t *testing.T) {
	for _, g := range geometries() {
		if g.Disks == 3 && g.Rows == 1 {
			continue
		}
		madeOf(t, g, alone()).isFound("a root alone")
		madeOf(t, g, some(t, 8)).isFound("a tree")
		madeOf(t, g, filled(t, 10, 10)).isFound("a full tree")
	}
	x := madeOf(t, small(), some(t, 8))
	uses(t, mounts(t, x.rack()), [2]int{0, 44}, [2]int{1, 45}, [2]int{14, 41}, [2]int{15, 40})
	x = madeOf(t, small(), filled(t, 5, 15))
	uses(t, mounts(t, x.rack()), [2]int{0, 44}, [2]int{1, 45}, [2]int{5, 46}, [2]int{15, 40})
}

// Without power: ErrDead, whatever else is wrong; that it is armed takes none.
func TestMountWithoutPower(t *testing.T) {
	for _, r := range []*device.Rack{madeOf(t, small(), alone()).rack(), newRack(t, small())} {
		lose(t, r, 0, 1)
		cutOff(t, r)
		refuses(t, "without power", r, api.ErrDead)
	}
	r := madeOf(t, small(), alone()).rack()
	r.Arm(0)
	refuses(t, "with power for no call", r, api.ErrDead)
	r = newRack(t, small())
	r.Arm(0)
	refuses(t, "of nothing, with power for no call", r, api.ErrCorrupt)
	refuses(t, "without a rack", nil, api.ErrDead)
}

// No disk has a super, or each one has one of another rack.
func TestMountWithoutASuper(t *testing.T) {
	refuses(t, "of nothing", newRack(t, small()), api.ErrCorrupt)
	for _, data := range [][]byte{
		make([]byte, 64), markBytes(3), memberBytes(0, 0, 0), record(77, 79, 82, 1), record(77, 79, 83, 1, 4, 2, 16),
		superBytes(api.Geometry{Disks: 4, Rows: 2, Segs: 17}), superBytes(api.Geometry{Disks: 4, Rows: 2, Segs: 15}), superBytes(api.Geometry{Disks: 5, Rows: 2, Segs: 16}), superBytes(api.Geometry{Disks: 3, Rows: 2, Segs: 16}), superBytes(api.Geometry{Disks: 3, Rows: 3, Segs: 12}),
	} {
		x := madeOf(t, small(), alone())
		r := x.rack()
		for disk := range 5 {
			puts(t, r, disk, 0, data)
		}
		refuses(t, "without a super of the rack", r, api.ErrCorrupt)
		// One disk's alone is enough, if the others have none; a super elsewhere isn't.
		puts(t, r, 3, 1, superBytes(small()))
		refuses(t, "with a super in sector 1", r, api.ErrCorrupt)
		lose(t, r, 0, 1)
		refuses(t, "without a super and two disks", r, api.ErrCorrupt)
	}
	for has := range 5 {
		r := madeOf(t, small(), some(t, 3)).rack()
		for disk := range 5 {
			if disk != has {
				puts(t, r, disk, 0, markBytes(7))
			}
		}
		holds(t, mounts(t, r), some(t, 3))
		for disk := range 5 {
			if !slices.Equal(gets(t, r, disk, 0), superBytes(small())) {
				t.Errorf("disk %d has no super", disk)
			}
		}
	}
}

// One disk has an unlike super: one that goes with the rack, too, or one that doesn't. What can't be read is none.
func TestMountWithUnlikeSupers(t *testing.T) {
	for _, g := range []api.Geometry{{Disks: 4, Rows: 1, Segs: 32}, {Disks: 4, Rows: 2, Segs: 17}, {Disks: 16, Rows: 4, Segs: 64}} {
		for disk := range 5 {
			r := madeOf(t, small(), alone()).rack()
			puts(t, r, disk, 0, superBytes(g))
			refuses(t, "with unlike supers", r, api.ErrCorrupt)
			lose(t, r, (disk+1)%4)
			refuses(t, "with unlike supers, without a disk", r, api.ErrCorrupt)
			r = madeOf(t, small(), alone()).rack()
			puts(t, r, disk, 0, superBytes(g))
			lose(t, r, disk)
			holds(t, mounts(t, r), alone())
			r = madeOf(t, small(), alone()).rack()
			puts(t, r, disk, 0, superBytes(g))
			lose(t, r, disk, (disk+1)%5)
			if disk < 3 {
				refuses(t, "without two disks", r, api.ErrIO)
			}
		}
	}
}

// The newest member must be one of the geometry's, wherever it stands; older ones needn't.
func TestMountWithAMemberThatDoesNotFit(t *testing.T) {
	for disk := range 5 {
		for _, sector := range []int{3, 4} {
			for _, state := range []int{api.Joining, api.Joined} {
				for _, slot := range []int{4, 5, 15} {
					r := madeOf(t, small(), alone()).rack()
					puts(t, r, disk, sector, memberBytes(6, slot, state))
					refuses(t, "with a member that doesn't fit", r, api.ErrCorrupt)
					lose(t, r, (disk+1)%5, (disk+2)%5)
					refuses(t, "with a member that doesn't fit, without two disks", r, api.ErrCorrupt)
					r = madeOf(t, small(), alone()).rack()
					puts(t, r, disk, sector, memberBytes(6, slot, state))
					puts(t, r, (disk+2)%5, 7-sector, memberBytes(7, 0, api.Unused))
					holds(t, mounts(t, r), alone())
				}
			}
		}
	}
}

// Members that fit: what slot the spare stands for is told by the newest one, on whichever disk it stands; behind a mount all disks have it.
func TestMountWithAMember(t *testing.T) {
	x := madeOf(t, small(), some(t, 6))
	for disk := range 5 {
		for slot := range 4 {
			for state := range 3 {
				for epoch := 6; epoch < 10; epoch++ {
					m := api.Member{Epoch: epoch, Slot: slot, State: state}
					if state == api.Unused {
						m.Slot = 0
					}
					x.slots = []int{0, 1, 2, 3}
					if state == api.Joined {
						x.slots[slot] = 4
					}
					r := x.rack()
					at := 3 + epoch%2
					puts(t, r, disk, at, memberBytes(epoch, m.Slot, state))
					puts(t, r, (disk+1)%5, 7-at, memberBytes(epoch-1, 0, 0))
					puts(t, r, (disk+2)%5, at, memberBytes(epoch-2, (slot+1)%4, api.Joined))
					s := mounts(t, r)
					holds(t, s, x.tree)
					if got := s.Bank().Member(); got != m {
						t.Errorf("the member is %v, not %v", got, m)
					}
					for d := range 5 {
						if isOut := state != api.Unused && d == slot; !isOut && !slices.Equal(gets(t, r, d, at), memberBytes(epoch, m.Slot, state)) {
							t.Errorf("disk %d has no member %v", d, m)
						}
					}
				}
			}
		}
	}
}

// Two slots are bad: ErrIO, ahead of what their segments tell; one alone does no harm, nor the spare and one.
func TestMountWithBadSlots(t *testing.T) {
	for a := range 5 {
		for b := range a {
			x := madeOf(t, small(), some(t, 6))
			r := x.rack()
			lose(t, r, a, b)
			if a == 4 {
				holds(t, mounts(t, r), x.tree)
				continue
			}
			refuses(t, "without two disks", r, api.ErrIO)
			x.seq = api.MaxSeq
			r = x.rack()
			lose(t, r, a, b)
			refuses(t, "without two disks, with too great a Seq", r, api.ErrIO)
		}
		x := madeOf(t, small(), some(t, 6))
		r := x.rack()
		for slot := range 4 {
			r := x.rack()
			puts(t, r, 1, 4, memberBytes(1, slot, api.Joining))
			if a == slot {
				// The disk that it is to stand for has failed.
				lose(t, r, a)
				holds(t, mounts(t, r), x.tree)
				continue
			}
			lose(t, r, a)
			if a == 4 {
				holds(t, mounts(t, r), x.tree)
			} else if a != 1 {
				refuses(t, "while joining, without another disk", r, api.ErrIO)
			}
		}
		lose(t, r, a)
		holds(t, mounts(t, r), x.tree)
	}
}

// What can be read of one slot that is bad is told by the others.
func TestMountReadsWhatIsLost(t *testing.T) {
	x := madeOf(t, small(), some(t, 6))
	for slot := range 4 {
		r := x.rack()
		lose(t, r, slot)
		s := mounts(t, r)
		holds(t, s, x.tree)
		lays(t, s, some(t, 7))
		again(t, r)
		holds(t, mounts(t, r), some(t, 7))
	}
}

// No segment, no whole group, or none but a torn one: ErrCorrupt.
func TestMountWithoutAGroup(t *testing.T) {
	x := madeOf(t, small(), some(t, 6))
	x.build()
	for lacks := range x.segs {
		r := x.rack()
		puts(t, r, 2, 5+x.segs[lacks]*2, make([]byte, 64))
		refuses(t, "without a whole group", r, api.ErrCorrupt)
		r = x.rack()
		x.seq--
		x.writeSegment(r, lacks)
		x.seq++
		refuses(t, "with a segment of another Seq", r, api.ErrCorrupt)
	}
	x.segs = nil
	refuses(t, "without a segment", x.rack(), api.ErrCorrupt)
}

// A sector of some segment, on whichever disk, tells a Seq that is too great; one less is as great as can be mounted, once.
func TestMountWithTheGreatestSeq(t *testing.T) {
	for disk := range 5 {
		for _, sector := range []int{5, 6, 20, 36} {
			for _, seq := range []int{api.MaxSeq, api.MaxSeq + 1, 1 << 31, 1<<32 - 1} {
				r := madeOf(t, small(), some(t, 6)).rack()
				puts(t, r, disk, sector, plain(seq, api.Block{}))
				if sector == 36 && disk < 4 {
					// This sector is one of the group's.
					lose(t, r, disk)
					holds(t, mounts(t, r), some(t, 6))
					continue
				}
				refuses(t, "with too great a Seq", r, api.ErrCorrupt)
				lose(t, r, disk)
				s := mounts(t, r)
				if got := s.Seq(0); got != 44 {
					t.Errorf("the Seq is %d", got)
				}
			}
		}
		r := madeOf(t, small(), some(t, 6)).rack()
		puts(t, r, disk, 6, plain(api.MaxSeq-2, api.Block{}))
		s := mounts(t, r)
		uses(t, s, [2]int{0, api.MaxSeq - 1}, [2]int{1, api.MaxSeq}, [2]int{14, 41}, [2]int{15, 40})
		holds(t, s, some(t, 6))
		lays(t, s, alone())
		refuses(t, "behind the greatest Seq", r, api.ErrCorrupt)
	}
	// Of a group of two segments the last one has the greatest Seq.
	for first, want := range map[int]api.Errno{api.MaxSeq - 3: api.OK, api.MaxSeq - 2: api.OK, api.MaxSeq - 1: api.ErrCorrupt, api.MaxSeq: api.ErrCorrupt} {
		x := madeOf(t, small(), filled(t, 1, 5))
		x.seq = first
		if want == api.OK {
			holds(t, mounts(t, x.rack()), x.tree)
		} else {
			x.isRefused("with a group of the greatest Seq", want)
		}
	}
}

// The group with the greatest Seq is loaded, be it whole in lower or higher segments; if it can't be, no older one is.
func TestMountTakesTheNewestGroup(t *testing.T) {
	for _, newer := range []bool{true, false} {
		x, y := madeOf(t, small(), some(t, 6)), madeOf(t, small(), filled(t, 1, 5))
		y.segs, y.own = []int{7, 8}, []int{8}
		y.list[0].Addrs[0] = y.address(7, 0)
		y.blocks = map[int]api.Block{y.address(7, 0): {Owner: 1, Data: says(y.tree.Nodes[0])}}
		y.seq, y.mark = 70, 40
		want := y.tree
		if !newer {
			y.seq, want = 37, x.tree
		}
		r := x.rack()
		y.write(r)
		holds(t, mounts(t, r), want)
		// A pointer of the newer group's root is wrong.
		r = x.rack()
		y.blocks[y.root()].Data[2]++
		y.write(r)
		if newer {
			refuses(t, "with a root that is wrong", r, api.ErrCorrupt)
		} else {
			holds(t, mounts(t, r), x.tree)
		}
	}
}

// Each block of the newest group's list, which can't be read, or is another one: ErrCorrupt.
func TestMountWithAListThatCanNotBeRead(t *testing.T) {
	n := len(madeOf(t, small(), some(t, 6)).list) + 4
	for i := range n {
		x := madeOf(t, small(), some(t, 6))
		x.build()
		x.mark = 0
		if len(x.more) != n {
			t.Fatal(len(x.more))
		}
		x.blocks[x.more[i]] = api.Block{Data: bytes.Repeat([]byte{9}, 56)}
		x.isRefused("with a block of the list that is another one", api.ErrCorrupt)
	}
	for _, at := range []int{0, 1, 8 * 5, 16*5 + 1, 65535} {
		x := madeOf(t, small(), some(t, 6))
		x.build()
		x.mark = 0
		copy(x.blocks[x.root()].Data[2:], []byte{byte(at), byte(at >> 8)})
		x.isRefused("with a chart where there is none", api.ErrCorrupt)
		x = madeOf(t, small(), some(t, 6))
		x.build()
		x.mark = 0
		x.more[len(x.more)-1] = at%80 + 1
		x.isRefused("with a root where there is none", api.ErrCorrupt)
	}
}

// Marks in sectors 1 and 2 of any disk: none may be newer than the newest group.
func TestMountWithMarks(t *testing.T) {
	for disk := range 5 {
		for sector := 1; sector < 3; sector++ {
			for _, seq := range []int{0, 1, 39, 40, 41, 43, 44, 1 << 24, 1<<32 - 1} {
				x := madeOf(t, small(), some(t, 6))
				x.mark = 5
				r := x.rack()
				puts(t, r, disk, sector, markBytes(seq))
				if seq <= 40 {
					holds(t, mounts(t, r), x.tree)
					continue
				}
				refuses(t, "with a mark ahead of the group", r, api.ErrCorrupt)
				lose(t, r, disk)
				holds(t, mounts(t, r), x.tree)
			}
		}
		// What stands elsewhere is no mark, nor another record.
		r := madeOf(t, small(), some(t, 6)).rack()
		puts(t, r, disk, 4, markBytes(90))
		puts(t, r, disk, 1, memberBytes(90, 1, 1))
		mounts(t, r)
	}
}

// Behind a mount the mark is in sector 2 of all disks; the next one comes to sector 1.
func TestMountMarks(t *testing.T) {
	x := madeOf(t, small(), some(t, 6))
	r := x.rack()
	s := mounts(t, r)
	lays(t, s, x.tree)
	is(t, "Mark", s.Mark(), api.OK)
	again(t, r)
	for disk := range 5 {
		if !slices.Equal(gets(t, r, disk, 2), markBytes(44)) || !slices.Equal(gets(t, r, disk, 1), markBytes(46)) {
			t.Errorf("disk %d: %v, %v", disk, gets(t, r, disk, 2), gets(t, r, disk, 1))
		}
	}
}

// What is torn of a later writing is never found: the first mount lays anew with a greater Seq than any sector tells, on the spare, too.
func TestMountUsesAGreaterSeqThanAnyThatIsSeen(t *testing.T) {
	for disk := range 5 {
		r := madeOf(t, small(), some(t, 6)).rack()
		puts(t, r, disk, 20, plain(900, api.Block{}))
		uses(t, mounts(t, r), [2]int{0, 901}, [2]int{1, 902}, [2]int{14, 41}, [2]int{15, 40})
	}
}
