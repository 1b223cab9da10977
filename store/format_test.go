package store

import (
	"bytes"
	"math"
	"slices"
	"testing"

	"moraine/api"
	"moraine/device"
)

// wrong are geometries that aren't right: each number beside its bounds and far away, and one with too few places.
func wrong() []api.Geometry {
	return []api.Geometry{
		{}, {Disks: 2, Rows: 4, Segs: 64}, {Disks: 17, Rows: 2, Segs: 16}, {Disks: 4, Rows: 0, Segs: 16}, {Disks: 4, Rows: 5, Segs: 16}, {Disks: 4, Rows: 2, Segs: 11}, {Disks: 4, Rows: 2, Segs: 65}, {Disks: 3, Rows: 1, Segs: 55},
		{Disks: -4, Rows: -2, Segs: -16}, {Disks: math.MaxInt, Rows: 2, Segs: 16}, {Disks: 4, Rows: math.MinInt, Segs: 16}, {Disks: 4, Rows: 2, Segs: math.MaxInt}, {Disks: 4 + 1<<32, Rows: 2, Segs: 16},
	}
}

// refusesFormat: a rack isn't formatted, with this error.
func refusesFormat(t *testing.T, what string, r *device.Rack, g api.Geometry, want api.Errno) {
	t.Helper()
	if s, err := Format(r, g); err != want || s != nil {
		t.Errorf("Format, %s: %v, not %v", what, err, want)
	}
}

// A root alone is there, and lasts; what is in use, and what the records of all disks tell, is as told.
func TestFormat(t *testing.T) {
	for _, g := range geometries() {
		s, r := formatted(t, g)
		holds(t, s, alone())
		hasRoom(t, s)
		if !s.Room() {
			t.Errorf("%v: a root alone doesn't fit", g)
		}
		if m := s.Bank().Member(); m != (api.Member{}) || s.Bank().Geo() != g {
			t.Errorf("%v: %v, %v", g, s.Bank().Geo(), m)
		}
		var pairs [][2]int
		for seg := range segs(g, 4) {
			pairs = append(pairs, [2]int{seg, seg + 1})
		}
		uses(t, s, pairs...)
		again(t, r)
		for disk := range g.Disks + 1 {
			hasRecords(t, r, g, disk, 1)
		}
		holds(t, mounts(t, r), alone())
	}
}

// hasRecords: a disk has the records of a formatted array, of whose group the first Seq is this.
func hasRecords(t *testing.T, r *device.Rack, g api.Geometry, disk, seq int) {
	t.Helper()
	for sector, want := range [][]byte{superBytes(g), markBytes(seq), markBytes(seq), memberBytes(0, 0, 0), memberBytes(0, 0, 0)} {
		if got := gets(t, r, disk, sector); !bytes.Equal(got, want) {
			t.Errorf("%v: disk %d, sector %d: %v, not %v", g, disk, sector, got, want)
		}
		if got, _ := r.Lasting(disk, sector); !bytes.Equal(got, want) {
			t.Errorf("%v: disk %d, sector %d doesn't last", g, disk, sector)
		}
	}
}

// A geometry that isn't right, a rack that doesn't go with it: ErrGeo, ahead of all else; and nothing is written.
func TestFormatOfAWrongRack(t *testing.T) {
	for _, g := range wrong() {
		refusesFormat(t, "of a wrong geometry", newRack(t, small()), g, api.ErrGeo)
	}
	for _, size := range [][2]int{{4, 37}, {6, 37}, {5, 36}, {5, 38}, {1, 1}, {17, 4096}} {
		r, err := device.New(size[0], size[1])
		is(t, "New", err, api.OK)
		refusesFormat(t, "of another rack", r, small(), api.ErrGeo)
		if got := gets(t, r, 0, 0); !bytes.Equal(got, make([]byte, 64)) {
			t.Errorf("%v: the rack has changed", size)
		}
		cutOff(t, r)
		refusesFormat(t, "of another rack without power", r, small(), api.ErrGeo)
	}
	refusesFormat(t, "without a rack", nil, small(), api.ErrGeo)
}

// Without power: ErrDead, whatever the disks tell.
func TestFormatWithoutPower(t *testing.T) {
	r := newRack(t, small())
	puts(t, r, 0, 5, plain(api.MaxSeq, api.Block{}))
	lose(t, r, 2, 3)
	cutOff(t, r)
	refusesFormat(t, "without power", r, small(), api.ErrDead)
	r.Restore(nil)
	refusesFormat(t, "with power again", r, small(), api.ErrCorrupt)
	r = newRack(t, small())
	r.Arm(0)
	refusesFormat(t, "with power for no call", r, small(), api.ErrDead)
}

// A sector of some segment, on whichever disk, tells a Seq that is too great: ErrCorrupt, and nothing is written; what can't be read tells none.
func TestFormatWithTheGreatestSeq(t *testing.T) {
	for disk := range 5 {
		for _, sector := range []int{5, 6, 21, 36} {
			for _, seq := range []int{api.MaxSeq, api.MaxSeq + 1, 1<<32 - 1} {
				r := newRack(t, small())
				puts(t, r, disk, sector, plain(seq, api.Block{}))
				refusesFormat(t, "with too great a Seq", r, small(), api.ErrCorrupt)
				if !bytes.Equal(gets(t, r, 1, 0), make([]byte, 64)) {
					t.Error("the rack has changed")
				}
				lose(t, r, disk)
				uses(t, formats(t, r, small()), [2]int{0, 1})
			}
			r := newRack(t, small())
			puts(t, r, disk, sector, plain(api.MaxSeq-1, api.Block{}))
			s := formats(t, r, small())
			uses(t, s, [2]int{0, api.MaxSeq})
			hasRecords(t, r, small(), 3, api.MaxSeq)
			holds(t, s, alone())
			refuses(t, "behind the greatest Seq", r, api.ErrCorrupt)
			r = newRack(t, small())
			puts(t, r, disk, sector, plain(api.MaxSeq-2, api.Block{}))
			formats(t, r, small())
			holds(t, mounts(t, r), alone())
		}
	}
	// What stands ahead of the segments tells no Seq.
	r := newRack(t, small())
	for sector := range 5 {
		puts(t, r, sector, sector, plain(1<<32-1, api.Block{}))
	}
	uses(t, formats(t, r, small()), [2]int{0, 1})
}

// With one bad slot, or without the spare, all goes on; with two it is ErrIO, wherever they fail.
func TestFormatWithBadSlots(t *testing.T) {
	for a := range 5 {
		r := newRack(t, small())
		lose(t, r, a)
		s := formats(t, r, small())
		holds(t, s, alone())
		uses(t, s, [2]int{0, 1})
		for disk := range 5 {
			if disk != a {
				hasRecords(t, r, small(), disk, 1)
			}
		}
		lays(t, s, some(t, 2))
		again(t, r)
		holds(t, mounts(t, r), some(t, 2))
		for b := range a {
			r := newRack(t, small())
			lose(t, r, a, b)
			if a == 4 {
				holds(t, formats(t, r, small()), alone())
			} else {
				refusesFormat(t, "without two disks", r, small(), api.ErrIO)
			}
		}
	}
	for calls := range 60 {
		r := newRack(t, small())
		is(t, "Doom", r.Doom(1, calls), api.OK)
		is(t, "Doom", r.Doom(2, calls/2), api.OK)
		s, err := Format(r, small())
		if want := r.Failed(1) && r.Failed(2); want != (err == api.ErrIO) || want != (s == nil) {
			t.Errorf("two disks fail behind %d calls: %v", calls, err)
		}
	}
}

// What was there before is gone: an array's tree, its marks, its members, an array of another geometry.
func TestFormatOfAnArray(t *testing.T) {
	old := api.Geometry{Disks: 4, Rows: 1, Segs: 32}
	for _, g := range []api.Geometry{small(), old} {
		s, r := stored(t, g, filled(t, 3, 5))
		for range 3 {
			is(t, "Lay", s.Lay(), api.OK)
			is(t, "Mark", s.Mark(), api.OK)
		}
		puts(t, r, 2, 3, memberBytes(2, 1, api.Joined))
		puts(t, r, 4, 4, memberBytes(3, 15, api.Joined))
		puts(t, r, 1, 1, markBytes(1<<32-1))
		puts(t, r, 3, 2, markBytes(1<<20))
		most := 0
		for _, seg := range s.Live() {
			most = max(most, s.Seq(seg))
		}
		s = formats(t, r, small())
		uses(t, s, [2]int{0, most + 1})
		holds(t, s, alone())
		for disk := range 5 {
			hasRecords(t, r, small(), disk, most+1)
		}
		again(t, r)
		holds(t, mounts(t, r), alone())
	}
}

// All that stands on the disks behind a Format, byte by byte.
func TestFormatByByte(t *testing.T) {
	_, r := formatted(t, small())
	// Segment 0 has its blocks 0 to 2 in sector 5 of the disks 0 to 2, and 3 to 5 in sector 6 of the disks 3, 0, 1.
	for at, front := range map[[2]int][]byte{
		{0, 5}: {1, 0, 0, 0, 255, 255, 0, 0, 83, 83, 1, 0, 0, 0, 4, 0, 4, 0},
		{1, 5}: {1, 0, 0, 0, 1, 0, 231, 3, 2, 2},
		{2, 5}: {1, 0, 0, 0, 0, 0, 1, 0, 1},
		{3, 6}: {1, 0, 0, 0, 0, 0, 2, 0},
		{0, 6}: {1, 0, 0, 0, 0, 0, 0, 0, 82, 82, 2, 0, 3},
		{1, 6}: {1},
		{3, 5}: {1, 0, 0, 0, 254, 255, 230, 3, 80, 81, 1, 0, 0, 0, 4, 0, 4},
		{2, 6}: {1, 0, 0, 0, 0, 0, 2, 0, 82, 82, 2, 0, 3},
	} {
		if got := gets(t, r, at[0], at[1]); !slices.Equal(got, record(front...)) {
			t.Errorf("disk %d, sector %d: %v", at[0], at[1], got)
		}
	}
}
