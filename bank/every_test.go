package bank

import (
	"bytes"
	"slices"
	"testing"

	"moraine/api"
)

func TestEverywhere(t *testing.T) {
	for _, m := range members() {
		for _, sector := range []int{0, 3, smallSectors - 1} {
			b, r := open(t, m)
			fill(t, r, sector)
			is(t, "Everywhere", b.Everywhere(sector, full(88)), api.OK)
			for disk := range 5 {
				want := byte(88)
				if !slices.Contains(inOrder(m), disk) {
					want = byte(disk + 1)
				}
				reads(t, r, disk, sector, want)
				if lasting(t, r, disk, sector) != 0 {
					t.Errorf("%v: disk %d was flushed", m, disk)
				}
				for _, other := range []int{1, 2, 35} {
					reads(t, r, disk, other, 0)
				}
			}
		}
	}
}

// The power goes at each disk: those ahead of it have the bytes, and no more are written.
func TestEverywhereAsThePowerGoes(t *testing.T) {
	for _, m := range members() {
		order := inOrder(m)
		for calls := range len(order) + 1 {
			b, r := open(t, m)
			fill(t, r, 3)
			r.Arm(calls)
			if calls < len(order) {
				is(t, "Everywhere", b.Everywhere(3, full(88)), api.ErrDead)
			} else {
				is(t, "Everywhere", b.Everywhere(3, full(88)), api.OK)
				is(t, "the next one", b.Everywhere(3, full(88)), api.ErrDead)
			}
			is(t, "without power", b.Everywhere(-1, nil), api.ErrDead)
			r.Restore([]int{1})
			for i, disk := range order {
				want := byte(disk + 1)
				if i < calls {
					want = 88
				}
				reads(t, r, disk, 3, want)
			}
		}
	}
}

// Each disk is one call, in order: one that is doomed fails at its turn.
func TestEverywhereTakesTurns(t *testing.T) {
	for _, m := range members() {
		order := inOrder(m)
		for i, disk := range order {
			b, r := open(t, m)
			is(t, "Doom", r.Doom(disk, i), api.OK)
			is(t, "Everywhere", b.Everywhere(3, full(88)), api.OK)
			if !r.Failed(disk) || len(b.All(3)) != len(order)-1 {
				t.Errorf("%v: disk %d was written ahead of its turn", m, disk)
			}
			for _, other := range order {
				if other != disk {
					reads(t, r, other, 3, 88)
				}
			}
			b, r = open(t, m)
			is(t, "Doom", r.Doom(disk, i+1), api.OK)
			is(t, "Everywhere", b.Everywhere(3, full(88)), api.OK)
			if r.Failed(disk) != (i+1 < len(order)) {
				t.Errorf("%v: disk %d was written behind its turn", m, disk)
			}
		}
	}
}

func TestEverywhereOfNoSector(t *testing.T) {
	for _, m := range members() {
		for _, lost := range []int{-1, 0, 1, 3, 4} {
			b, r := open(t, m)
			if lost >= 0 {
				lose(t, r, lost)
			}
			for _, sector := range append(strange(), smallSectors) {
				is(t, "Everywhere", b.Everywhere(sector, full(1)), api.ErrSector)
			}
			for _, n := range []int{0, 1, 56, 63, 65, 128} {
				is(t, "Everywhere", b.Everywhere(0, make([]byte, n)), api.ErrSector)
			}
			is(t, "Everywhere", b.Everywhere(0, nil), api.ErrSector)
			// None of them was a call: with as many as there are disks, the power stays.
			r.Arm(len(inOrder(m)))
			is(t, "Everywhere", b.Everywhere(0, full(1)), api.OK)
			cutOff(t, r)
			is(t, "Everywhere", b.Everywhere(smallSectors, full(1)), api.ErrDead)
			is(t, "Everywhere", b.Everywhere(0, nil), api.ErrDead)
		}
	}
}

// A disk that has failed takes its turn, and the others have the bytes.
func TestEverywhereWithFailedDisks(t *testing.T) {
	for _, m := range members() {
		for lost := range 5 {
			b, r := open(t, m)
			lose(t, r, lost)
			r.Arm(len(inOrder(m)))
			is(t, "Everywhere", b.Everywhere(3, full(88)), api.OK)
			for disk := range 5 {
				if disk == lost {
					continue
				}
				if slices.Contains(inOrder(m), disk) {
					reads(t, r, disk, 3, 88)
				} else {
					reads(t, r, disk, 3, 0)
				}
			}
			is(t, "Everywhere", b.Everywhere(3, full(88)), api.ErrDead)
		}
	}
	b, r := open(t, api.Member{})
	lose(t, r, 0, 1, 2, 3, 4)
	is(t, "with all failed", b.Everywhere(3, full(88)), api.OK)
	is(t, "with all failed", b.Everywhere(3, full(88)[:63]), api.ErrSector)
}

// hasAll holds what All answers against a sector that fill has filled, of these disks.
func hasAll(t *testing.T, b *Bank, sector int, disks ...int) {
	t.Helper()
	got := b.All(sector)
	var want [][]byte
	for _, disk := range disks {
		want = append(want, full(byte(disk+1)))
	}
	if !slices.EqualFunc(got, want, bytes.Equal) {
		t.Errorf("All(%d) with %v: %v, not of %v", sector, b.Member(), got, disks)
	}
}

// In each State, with each set of disks failed.
func TestAll(t *testing.T) {
	for _, m := range members() {
		for _, lost := range sets() {
			b, r := open(t, m)
			fill(t, r, 3)
			lose(t, r, lost...)
			var want []int
			for _, disk := range inOrder(m) {
				if !slices.Contains(lost, disk) {
					want = append(want, disk)
				}
			}
			hasAll(t, b, 3, want...)
		}
	}
}

func TestAllByName(t *testing.T) {
	b, r := open(t, api.Member{})
	fill(t, r, 3)
	hasAll(t, b, 3, 0, 1, 2, 3, 4)
	b.Join(member(0, api.Joining))
	hasAll(t, b, 3, 4, 1, 2, 3)
	b.Join(member(3, api.Joined))
	hasAll(t, b, 3, 0, 1, 2, 4)
	lose(t, r, 1)
	hasAll(t, b, 3, 0, 2, 4)
}

func TestAllOfNothing(t *testing.T) {
	for _, m := range members() {
		b, r := open(t, m)
		fill(t, r, 3)
		for _, sector := range append(strange(), smallSectors) {
			hasAll(t, b, sector)
		}
		cutOff(t, r)
		hasAll(t, b, 3)
	}
}

// Whatever the member, Join makes it each other one that Open would take.
func TestJoin(t *testing.T) {
	wild := []api.Member{{Epoch: -5}, {Slot: 77}, {Epoch: 1 << 40, Slot: -1}, {Epoch: 1 << 60, Slot: 2, State: 1}}
	list := append(members(), wild...)
	for _, from := range list {
		for _, to := range list {
			b, r := open(t, from)
			b.Join(to)
			if b.Member() != to {
				t.Errorf("%v behind %v: it is %v", to, from, b.Member())
			}
			fill(t, r, 3)
			hasAll(t, b, 3, inOrder(to)...)
			is(t, "Flush", b.Flush(), api.OK)
			for disk := range 5 {
				if (lasting(t, r, disk, 3) != 0) != slices.Contains(inOrder(to), disk) {
					t.Errorf("%v behind %v: disk %d", to, from, disk)
				}
			}
			if len(b.Bad()) != to.State%2 {
				t.Errorf("%v behind %v: bad are %v", to, from, b.Bad())
			}
			for slot := range 4 {
				if got, err := b.Read(slot, 3); err != api.OK || got[0] != byte(diskOf(slot, to)+1) {
					t.Errorf("%v behind %v: slot %d reads %v, %v", to, from, slot, got, err)
				}
			}
		}
	}
}

func TestJoinOfNoMember(t *testing.T) {
	var none []api.Member
	for _, n := range append(strange(), 4, 5, 16) {
		none = append(none, member(n, api.Joining), member(n, api.Joined), member(0, n), member(n, 3), member(n, -1))
	}
	none = append(none, member(1, 3), api.Member{State: 3}, api.Member{State: -1})
	for _, m := range members() {
		b, r := open(t, m)
		fill(t, r, 3)
		for _, n := range none {
			b.Join(n)
			if b.Member() != m {
				t.Fatalf("%v behind %v: it is %v", n, m, b.Member())
			}
			hasAll(t, b, 3, inOrder(m)...)
		}
	}
}

// Join is for this bank alone: another one on the same rack has its own member.
func TestTwoBanksOnOneRack(t *testing.T) {
	one, r := open(t, api.Member{})
	other, err := Open(r, small(), member(2, api.Joined))
	is(t, "Open", err, api.OK)
	one.Join(member(1, api.Joining))
	if other.Member() != member(2, api.Joined) || one.Member() != member(1, api.Joining) {
		t.Error(one.Member(), other.Member())
	}
	is(t, "Write", one.Write(1, 9, full(6)), api.OK)
	if got, err := other.Read(2, 9); err != api.OK || !bytes.Equal(got, full(6)) {
		t.Error(got, err)
	}
}

// within is bytes that have further ones behind their length, and a copy of all of them.
func within(x byte) (part, all, copied []byte) {
	all = bytes.Repeat([]byte{x}, 3*api.SectorSize)
	return all[api.SectorSize : 2*api.SectorSize], all, bytes.Clone(all)
}

// spoil changes all of a list's memory, its spare room too.
func spoil(b []byte) {
	b = b[:cap(b)]
	for i := range b {
		b[i] ^= 0xff
	}
}

func TestHandedInIsNeitherChangedNorKept(t *testing.T) {
	for _, m := range members() {
		b, r := open(t, m)
		part, all, copied := within(21)
		is(t, "Write", b.Write(1, 4, part), api.OK)
		is(t, "Everywhere", b.Everywhere(5, part), api.OK)
		is(t, "Everywhere", b.Everywhere(-5, part), api.ErrSector)
		if !bytes.Equal(all, copied) {
			t.Error("it is changed")
		}
		spoil(all)
		reads(t, r, diskOf(1, m), 4, 21)
		for _, disk := range inOrder(m) {
			reads(t, r, disk, 5, 21)
		}
	}
}

// What is answered may be written over: neither another list of it nor what is kept changes.
func TestAnsweredIsNewMemory(t *testing.T) {
	for _, m := range members() {
		b, r := open(t, m)
		for _, flushed := range []bool{false, true} {
			fill(t, r, 3)
			if flushed {
				is(t, "Flush", b.Flush(), api.OK)
			}
			got, _ := b.Read(1, 3)
			spoil(got)
			all := b.All(3)
			for i := range all {
				spoil(all[i])
				for _, other := range all[i+1:] {
					if other[0] == all[i][0] || other[0] > 5 {
						t.Error("two lists share memory")
					}
				}
			}
			clear(all[:cap(all)])
			hasAll(t, b, 3, inOrder(m)...)
			for disk := range 5 {
				reads(t, r, disk, 3, byte(disk+1))
			}
		}
		lose(t, r, 0, 1, 2, 3)
		bad := b.Bad()
		for i := range bad[:cap(bad)] {
			bad[:cap(bad)][i] = 9
		}
		if got := b.Bad(); slices.Contains(got, 9) || len(got) < 3 {
			t.Error(got)
		}
	}
}
