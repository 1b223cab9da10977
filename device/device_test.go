package device

import (
	"bytes"
	"math"
	"testing"

	"moraine/api"
)

// full is a sector's bytes, all alike.
func full(x byte) []byte {
	return bytes.Repeat([]byte{x}, api.SectorSize)
}

// rack is a new rack.
func rack(t *testing.T, disks, sectors int) *Rack {
	t.Helper()
	r, err := New(disks, sectors)
	if err != api.OK || r == nil {
		t.Fatalf("New(%d, %d): %v, %v", disks, sectors, r, err)
	}
	return r
}

// is holds an error against the one that is wanted.
func is(t *testing.T, what string, got, want api.Errno) {
	t.Helper()
	if got != want {
		t.Errorf("%s: %v, not %v", what, got, want)
	}
}

// reads holds what a sector reads against bytes that are all alike.
func reads(t *testing.T, r *Rack, disk, sector int, want byte) {
	t.Helper()
	if b, err := r.Read(disk, sector); err != api.OK || !bytes.Equal(b, full(want)) {
		t.Errorf("Read(%d, %d): %v, %v, not all %d", disk, sector, b, err, want)
	}
}

// lasts holds what lasts of a sector against bytes that are all alike.
func lasts(t *testing.T, r *Rack, disk, sector int, want byte) {
	t.Helper()
	if b, err := r.Lasting(disk, sector); err != api.OK || !bytes.Equal(b, full(want)) {
		t.Errorf("Lasting(%d, %d): %v, %v, not all %d", disk, sector, b, err, want)
	}
}

// refuses holds the answers of a Read, a Write and a Flush against an error.
func refuses(t *testing.T, r *Rack, disk, sector int, want api.Errno) {
	t.Helper()
	if b, err := r.Read(disk, sector); err != want || len(b) != 0 {
		t.Errorf("Read(%d, %d): %v, %v, not %v", disk, sector, b, err, want)
	}
	is(t, "Write", r.Write(disk, sector, full(9)), want)
	is(t, "Flush", r.Flush(disk), want)
}

// store writes a sector of bytes that are all alike, and makes it last.
func store(t *testing.T, r *Rack, disk, sector int, x byte) {
	t.Helper()
	is(t, "Write", r.Write(disk, sector, full(x)), api.OK)
	is(t, "Flush", r.Flush(disk), api.OK)
}

// lose lets a disk fail at a call that changes nothing.
func lose(t *testing.T, r *Rack, disk int) {
	t.Helper()
	is(t, "Doom", r.Doom(disk, 0), api.OK)
	is(t, "Flush", r.Flush(disk), api.ErrFailed)
	if !r.Failed(disk) {
		t.Errorf("disk %d hasn't failed", disk)
	}
}

// cutOff lets the power go at a call that changes nothing.
func cutOff(t *testing.T, r *Rack) {
	t.Helper()
	r.Arm(0)
	is(t, "Flush", r.Flush(0), api.ErrDead)
	if !r.Off() {
		t.Error("the power is on")
	}
}

// strange are numbers that no small count of disks or sectors has.
func strange() []int {
	return []int{-1, -2, -64, 1 << 20, 1 << 32, 1 << 58, 1 << 63 / 64, math.MaxInt, math.MaxInt - 1, math.MinInt, math.MinInt + 1}
}

func TestNew(t *testing.T) {
	for _, c := range []struct{ disks, sectors int }{
		{1, 1}, {1, 4096}, {17, 1}, {17, 4096}, {5, 37}, {2, 4095}, {16, 2},
	} {
		r := rack(t, c.disks, c.sectors)
		if disks, sectors := r.Size(); disks != c.disks || sectors != c.sectors {
			t.Errorf("Size of %v: %d, %d", c, disks, sectors)
		}
		if r.Off() {
			t.Errorf("%v: the power is off", c)
		}
		for disk := range c.disks {
			if r.Failed(disk) {
				t.Errorf("%v: disk %d has failed", c, disk)
			}
			for _, sector := range []int{0, c.sectors / 2, c.sectors - 1} {
				reads(t, r, disk, sector, 0)
				lasts(t, r, disk, sector, 0)
			}
		}
	}
}

func TestNewNone(t *testing.T) {
	type size struct{ disks, sectors int }
	cases := []size{{0, 1}, {18, 1}, {1, 0}, {1, 4097}, {17, 4097}, {18, 4096}, {0, 0}}
	for _, n := range strange() {
		cases = append(cases, size{n, 1}, size{1, n}, size{n, n}, size{n, 4096})
	}
	for _, c := range cases {
		if r, err := New(c.disks, c.sectors); r != nil || err != api.ErrGeo {
			t.Errorf("New(%d, %d): %v, %v", c.disks, c.sectors, r, err)
		}
	}
}

func TestNewArmsNothing(t *testing.T) {
	r := rack(t, 3, 2)
	for range 1000 {
		is(t, "Write", r.Write(1, 1, full(1)), api.OK)
	}
	for disk := range 3 {
		if r.Failed(disk) || r.Off() {
			t.Error("something was armed")
		}
	}
}

func TestSizeStays(t *testing.T) {
	r := rack(t, 3, 2)
	lose(t, r, 1)
	cutOff(t, r)
	if disks, sectors := r.Size(); disks != 3 || sectors != 2 {
		t.Error(disks, sectors)
	}
}

// Each sector has bytes of its own: of the greatest rack the corners, of a small one all.
func TestSectorsAreApart(t *testing.T) {
	r := rack(t, 17, 4096)
	corners := []api.Spot{{Disk: 0, Sector: 0}, {Disk: 0, Sector: 4095}, {Disk: 16, Sector: 0}, {Disk: 16, Sector: 4095}}
	for i, s := range corners {
		store(t, r, s.Disk, s.Sector, byte(i+1))
	}
	for i, s := range corners {
		reads(t, r, s.Disk, s.Sector, byte(i+1))
		lasts(t, r, s.Disk, s.Sector, byte(i+1))
	}
	reads(t, r, 0, 1, 0)
	reads(t, r, 16, 4094, 0)
	small := rack(t, 3, 4)
	for n := range 12 {
		is(t, "Write", small.Write(n/4, n%4, full(byte(n+1))), api.OK)
	}
	for n := range 12 {
		reads(t, small, n/4, n%4, byte(n+1))
		lasts(t, small, n/4, n%4, 0)
	}
}

func TestEachByteIsKept(t *testing.T) {
	r := rack(t, 1, 2)
	b := make([]byte, api.SectorSize)
	for i := range b {
		b[i] = byte(3*i + 1)
	}
	is(t, "Write", r.Write(0, 1, b), api.OK)
	if got, _ := r.Read(0, 1); !bytes.Equal(got, b) {
		t.Error("cached:", got)
	}
	is(t, "Flush", r.Flush(0), api.OK)
	if got, _ := r.Read(0, 1); !bytes.Equal(got, b) {
		t.Error("flushed:", got)
	}
	if got, _ := r.Lasting(0, 1); !bytes.Equal(got, b) {
		t.Error("lasting:", got)
	}
}

func TestWriteCaches(t *testing.T) {
	r := rack(t, 2, 3)
	store(t, r, 1, 2, 4)
	is(t, "Write", r.Write(1, 2, full(5)), api.OK)
	reads(t, r, 1, 2, 5)
	lasts(t, r, 1, 2, 4)
	is(t, "Write", r.Write(1, 2, full(6)), api.OK)
	reads(t, r, 1, 2, 6)
	lasts(t, r, 1, 2, 4)
	is(t, "Flush", r.Flush(1), api.OK)
	reads(t, r, 1, 2, 6)
	lasts(t, r, 1, 2, 6)
}

// A sector of noughts is cached like any other one.
func TestNoughtsAreCached(t *testing.T) {
	r := rack(t, 1, 1)
	store(t, r, 0, 0, 4)
	is(t, "Write", r.Write(0, 0, full(0)), api.OK)
	reads(t, r, 0, 0, 0)
	lasts(t, r, 0, 0, 4)
	is(t, "Flush", r.Flush(0), api.OK)
	lasts(t, r, 0, 0, 0)
}

func TestFlushIsOfOneDisk(t *testing.T) {
	r := rack(t, 3, 2)
	for n := range 6 {
		is(t, "Write", r.Write(n/2, n%2, full(byte(n+1))), api.OK)
	}
	is(t, "Flush", r.Flush(1), api.OK)
	for n := range 6 {
		reads(t, r, n/2, n%2, byte(n+1))
		if n/2 == 1 {
			lasts(t, r, 1, n%2, byte(n+1))
		} else {
			lasts(t, r, n/2, n%2, 0)
		}
	}
}

// What was flushed isn't cached any more: the power's going leaves it, and a further flush has nothing to do.
func TestFlushedIsNotCached(t *testing.T) {
	r := rack(t, 1, 2)
	store(t, r, 0, 0, 1)
	is(t, "Write", r.Write(0, 1, full(2)), api.OK)
	r.Restore([]int{1, 0})
	lasts(t, r, 0, 0, 1)
	lasts(t, r, 0, 1, 2)
	is(t, "Load", r.Load(0, nil), api.OK)
	is(t, "Flush", r.Flush(0), api.OK)
	lasts(t, r, 0, 0, 0)
	lasts(t, r, 0, 1, 0)
}

func TestNoSuchDiskOrSector(t *testing.T) {
	r := rack(t, 3, 4)
	for _, disk := range append(strange(), 3, 4) {
		for _, sector := range append(strange(), 0, 3, 4) {
			refuses(t, r, disk, sector, api.ErrSector)
		}
	}
	for _, sector := range append(strange(), 4, 5, 11) {
		if b, err := r.Read(2, sector); err != api.ErrSector || len(b) != 0 {
			t.Errorf("Read(2, %d): %v, %v", sector, b, err)
		}
		is(t, "Write", r.Write(0, sector, full(1)), api.ErrSector)
	}
	for n := range 12 {
		reads(t, r, n/4, n%4, 0)
	}
}

func TestWriteOfNoSector(t *testing.T) {
	r := rack(t, 1, 1)
	store(t, r, 0, 0, 7)
	for _, n := range []int{0, 1, 56, 63, 65, 128, 4096} {
		is(t, "Write", r.Write(0, 0, bytes.Repeat([]byte{1}, n)), api.ErrSector)
	}
	is(t, "Write", r.Write(0, 0, nil), api.ErrSector)
	is(t, "Write", r.Write(0, 0, full(1)[:63]), api.ErrSector)
	reads(t, r, 0, 0, 7)
}

// ErrDead comes ahead of ErrSector, and that ahead of ErrFailed.
func TestOrderOfErrors(t *testing.T) {
	r := rack(t, 2, 2)
	lose(t, r, 1)
	refuses(t, r, 1, 1, api.ErrFailed)
	is(t, "Write of 63 bytes", r.Write(1, 1, full(1)[:63]), api.ErrSector)
	is(t, "Write", r.Write(1, 2, full(1)), api.ErrSector)
	if b, err := r.Read(1, 2); err != api.ErrSector || len(b) != 0 {
		t.Error("Read:", b, err)
	}
	refuses(t, r, 2, 0, api.ErrSector)
	r.Arm(0)
	is(t, "Write, armed", r.Write(1, 1, full(1)[:63]), api.ErrSector)
	is(t, "Flush, armed", r.Flush(2), api.ErrSector)
	is(t, "Write to a failed disk, armed", r.Write(1, 1, full(1)), api.ErrDead)
	for _, disk := range []int{0, 1, 2, -1} {
		for _, sector := range []int{0, 2, -1} {
			refuses(t, r, disk, sector, api.ErrDead)
		}
	}
	is(t, "Write of 63 bytes", r.Write(0, 0, full(1)[:63]), api.ErrDead)
	is(t, "Write of nil", r.Write(0, 0, nil), api.ErrDead)
}

// The chapter's example.
func TestArmedWithOneCall(t *testing.T) {
	r := rack(t, 1, 1)
	r.Arm(1)
	is(t, "Write", r.Write(0, 0, full(1)), api.OK)
	if r.Off() {
		t.Error("the power is off")
	}
	is(t, "the next one", r.Write(0, 0, full(2)), api.ErrDead)
	if !r.Off() {
		t.Error("the power is on")
	}
}

func TestArm(t *testing.T) {
	for calls := range 6 {
		r := rack(t, 2, 1)
		r.Arm(calls)
		for i := range calls {
			if i%2 == 0 {
				is(t, "Write", r.Write(i%2, 0, full(byte(i+1))), api.OK)
			} else {
				is(t, "Flush", r.Flush(i%2), api.OK)
			}
			reads(t, r, 1, 0, 0)
		}
		if r.Off() {
			t.Errorf("armed with %d: off ahead of the call", calls)
		}
		is(t, "Flush", r.Flush(0), api.ErrDead)
		if !r.Off() {
			t.Errorf("armed with %d: on behind it", calls)
		}
		refuses(t, r, 0, 0, api.ErrDead)
		lasts(t, r, 0, 0, 0)
	}
}

// The power may go at a Write as at a Flush; neither is done then.
func TestWhatThePowerGoesAtIsNotDone(t *testing.T) {
	r := rack(t, 1, 2)
	is(t, "Write", r.Write(0, 0, full(1)), api.OK)
	r.Arm(0)
	is(t, "Flush", r.Flush(0), api.ErrDead)
	lasts(t, r, 0, 0, 0)
	r.Restore([]int{1})
	r.Arm(0)
	is(t, "Write", r.Write(0, 1, full(2)), api.ErrDead)
	r.Restore([]int{1})
	reads(t, r, 0, 0, 1)
	reads(t, r, 0, 1, 0)
}

func TestArmAgain(t *testing.T) {
	r := rack(t, 1, 1)
	for _, calls := range []int{-1, -2, math.MinInt, math.MaxInt} {
		r.Arm(0)
		r.Arm(calls)
		for range 20 {
			is(t, "Write", r.Write(0, 0, full(1)), api.OK)
		}
	}
	r.Arm(5)
	is(t, "Write", r.Write(0, 0, full(1)), api.OK)
	r.Arm(1)
	is(t, "Write", r.Write(0, 0, full(1)), api.OK)
	is(t, "Write", r.Write(0, 0, full(1)), api.ErrDead)
	r.Arm(-1)
	r.Arm(7)
	if !r.Off() {
		t.Error("armed anew, it is on again")
	}
	refuses(t, r, 0, 0, api.ErrDead)
}

// What is no call, or is refused, isn't counted.
func TestWhatIsNotCounted(t *testing.T) {
	r := rack(t, 2, 1)
	r.Arm(1)
	is(t, "Doom", r.Doom(1, 1), api.OK)
	for range 5 {
		reads(t, r, 0, 0, 0)
		lasts(t, r, 0, 0, 0)
		is(t, "Write", r.Write(0, 1, full(1)), api.ErrSector)
		is(t, "Write", r.Write(-1, 0, full(1)), api.ErrSector)
		is(t, "Write", r.Write(0, 0, full(1)[1:]), api.ErrSector)
		is(t, "Flush", r.Flush(2), api.ErrSector)
		is(t, "Load", r.Load(0, nil), api.OK)
		is(t, "Doom", r.Doom(2, 0), api.ErrSector)
		r.Failed(1)
		r.Off()
		r.Size()
	}
	is(t, "Write", r.Write(1, 0, full(1)), api.OK)
	is(t, "Write", r.Write(1, 0, full(1)), api.ErrDead)
	for range 5 {
		refuses(t, r, 0, 0, api.ErrDead)
	}
	r.Restore(nil)
	if r.Failed(1) {
		t.Error("what was refused was counted")
	}
	is(t, "Write", r.Write(1, 0, full(1)), api.ErrFailed)
}

// A call that a failed disk answers with ErrFailed is counted.
func TestFailedIsCounted(t *testing.T) {
	r := rack(t, 3, 1)
	lose(t, r, 0)
	r.Arm(3)
	is(t, "Doom", r.Doom(2, 2), api.OK)
	is(t, "Write", r.Write(0, 0, full(1)), api.ErrFailed)
	is(t, "Flush", r.Flush(0), api.ErrFailed)
	is(t, "Write", r.Write(2, 0, full(1)), api.ErrFailed)
	is(t, "Write", r.Write(1, 0, full(1)), api.ErrDead)
}

func TestDoom(t *testing.T) {
	for calls := range 6 {
		for _, other := range []int{0, 2} {
			r := rack(t, 3, 1)
			is(t, "Doom", r.Doom(1, calls), api.OK)
			for i := range calls {
				// The calls to any disk count.
				is(t, "Write", r.Write(i%3, 0, full(1)), api.OK)
				if r.Failed(1) {
					t.Errorf("doomed with %d: failed at call %d", calls, i)
				}
			}
			if b, err := r.Read(1, 0); err != api.OK || len(b) != api.SectorSize {
				t.Errorf("doomed with %d: %v, %v ahead of the call", calls, b, err)
			}
			is(t, "Flush", r.Flush(other), api.OK)
			if !r.Failed(1) || r.Failed(0) || r.Failed(2) {
				t.Errorf("doomed with %d: failed are %v, %v, %v", calls, r.Failed(0), r.Failed(1), r.Failed(2))
			}
			refuses(t, r, 1, 0, api.ErrFailed)
			is(t, "Write to another one", r.Write(other, 0, full(7)), api.OK)
			reads(t, r, other, 0, 7)
		}
	}
}

// A disk's count that comes to 0 at a call leaves that call as it is; at the next one it has failed.
func TestDoomComesToNought(t *testing.T) {
	r := rack(t, 2, 2)
	is(t, "Doom", r.Doom(0, 1), api.OK)
	is(t, "Write", r.Write(0, 0, full(1)), api.OK)
	if r.Failed(0) {
		t.Error("failed at once")
	}
	reads(t, r, 0, 0, 1)
	is(t, "Write", r.Write(0, 1, full(2)), api.ErrFailed)
	if !r.Failed(0) {
		t.Error("not failed")
	}
	is(t, "Doom", r.Doom(1, 1), api.OK)
	is(t, "Write", r.Write(0, 0, full(1)), api.ErrFailed)
	is(t, "Flush", r.Flush(1), api.ErrFailed)
}

// What is written or flushed at the call at which the disk fails isn't done.
func TestWhatADiskFailsAtIsNotDone(t *testing.T) {
	r := rack(t, 2, 2)
	is(t, "Write", r.Write(0, 0, full(1)), api.OK)
	is(t, "Doom", r.Doom(0, 0), api.OK)
	if r.Failed(0) {
		t.Error("failed ahead of the call")
	}
	is(t, "Flush", r.Flush(0), api.ErrFailed)
	lasts(t, r, 0, 0, 0)
}

func TestDoomOfSeveral(t *testing.T) {
	r := rack(t, 4, 1)
	for disk := range 3 {
		is(t, "Doom", r.Doom(disk, disk), api.OK)
	}
	for call := range 4 {
		is(t, "Write", r.Write(3, 0, full(1)), api.OK)
		for disk := range 4 {
			if got := r.Failed(disk); got != (disk <= call && disk < 3) {
				t.Errorf("behind call %d, disk %d: %v", call, disk, got)
			}
		}
	}
}

func TestDoomAgain(t *testing.T) {
	r := rack(t, 2, 1)
	for _, calls := range []int{-1, -2, math.MinInt, math.MaxInt} {
		is(t, "Doom", r.Doom(1, 0), api.OK)
		is(t, "Doom", r.Doom(1, calls), api.OK)
		for range 20 {
			is(t, "Write", r.Write(1, 0, full(1)), api.OK)
		}
	}
	is(t, "Doom", r.Doom(1, 9), api.OK)
	is(t, "Doom", r.Doom(1, 1), api.OK)
	is(t, "Write", r.Write(0, 0, full(1)), api.OK)
	is(t, "Write", r.Write(1, 0, full(1)), api.ErrFailed)
	for _, calls := range []int{-1, 0, 5} {
		is(t, "Doom", r.Doom(1, calls), api.OK)
		refuses(t, r, 1, 0, api.ErrFailed)
	}
}

func TestDoomNoDisk(t *testing.T) {
	r := rack(t, 3, 1)
	for _, disk := range append(strange(), 3) {
		for _, calls := range append(strange(), 0, 1) {
			is(t, "Doom", r.Doom(disk, calls), api.ErrSector)
		}
	}
	is(t, "Write", r.Write(0, 0, full(1)), api.OK)
	for disk := -1; disk <= 3; disk++ {
		if r.Failed(disk) {
			t.Errorf("disk %d has failed", disk)
		}
	}
	cutOff(t, r)
	is(t, "Doom without power", r.Doom(3, 0), api.ErrSector)
	is(t, "Doom without power", r.Doom(2, 0), api.OK)
	r.Restore(nil)
	is(t, "Write", r.Write(2, 0, full(1)), api.ErrFailed)
}

// The call at which the power goes isn't counted for the disks.
func TestPowerGoesAheadOfDisks(t *testing.T) {
	r := rack(t, 1, 1)
	r.Arm(0)
	is(t, "Doom", r.Doom(0, 0), api.OK)
	is(t, "Write", r.Write(0, 0, full(1)), api.ErrDead)
	if r.Failed(0) {
		t.Error("failed without a call")
	}
	r.Restore(nil)
	is(t, "Write", r.Write(0, 0, full(1)), api.ErrFailed)
	other := rack(t, 1, 1)
	other.Arm(1)
	is(t, "Doom", other.Doom(0, 1), api.OK)
	is(t, "Write", other.Write(0, 0, full(1)), api.OK)
	is(t, "Write", other.Write(0, 0, full(1)), api.ErrDead)
	if other.Failed(0) {
		t.Error("failed without a call")
	}
}

// restored makes a rack of 3 disks with 4 sectors, of which all but one of each disk are cached (written in falling order, so that no order of writing helps), and restores it behind a loss of power.
func restored(t *testing.T, keeps []int) *Rack {
	t.Helper()
	r := rack(t, 3, 4)
	for disk := range 3 {
		for sector := range 4 {
			is(t, "Write", r.Write(disk, sector, full(100)), api.OK)
		}
		is(t, "Flush", r.Flush(disk), api.OK)
	}
	for disk := 2; disk >= 0; disk-- {
		for sector := 3; sector >= 0; sector-- {
			if sector != disk {
				is(t, "Write", r.Write(disk, sector, full(byte(10*disk+sector))), api.OK)
			}
		}
	}
	cutOff(t, r)
	r.Restore(keeps)
	return r
}

func TestRestore(t *testing.T) {
	spots := []api.Spot{{Disk: 0, Sector: 1}, {Disk: 0, Sector: 2}, {Disk: 0, Sector: 3}, {Disk: 1, Sector: 0}, {Disk: 1, Sector: 2}, {Disk: 1, Sector: 3}, {Disk: 2, Sector: 0}, {Disk: 2, Sector: 1}, {Disk: 2, Sector: 3}}
	for _, c := range []struct {
		keeps []int
		want  string
	}{
		{nil, "........."},
		{[]int{}, "........."},
		{[]int{0}, "........."},
		{[]int{2}, "........."},
		{[]int{-2}, "........."},
		{[]int{math.MinInt}, "........."},
		{[]int{1}, "xxxxxxxxx"},
		{[]int{-1}, "xxxxxxxxx"},
		{[]int{-3}, "xxxxxxxxx"},
		{[]int{math.MaxInt}, "xxxxxxxxx"},
		{[]int{math.MinInt + 1}, "xxxxxxxxx"},
		{[]int{1, 0}, "x.x.x.x.x"},
		{[]int{0, 1}, ".x.x.x.x."},
		{[]int{7, -4, -5, 1 << 40}, "x.x.x.x.x"},
		{[]int{1, 0, 0}, "x..x..x.."},
		{[]int{0, 0, 0, 0, 5}, "....x...."},
		{[]int{0, 0, 0, 1, 0, 0, 0, 0}, "...x....."},
		{[]int{1, 0, 0, 0, 0, 0, 0, 0}, "x.......x"},
		{[]int{0, 0, 0, 0, 0, 0, 0, 0, 1}, "........x"},
		{[]int{0, 0, 0, 0, 0, 0, 0, 0, 0, 1, 1}, "........."},
		{[]int{0, 1, 0, 0, 0, 0, 1, 0, 0, 1, 1}, ".x....x.."},
	} {
		r := restored(t, c.keeps)
		for i, s := range spots {
			want := byte(100)
			if c.want[i] == 'x' {
				want = byte(10*s.Disk + s.Sector)
			}
			lasts(t, r, s.Disk, s.Sector, want)
			reads(t, r, s.Disk, s.Sector, want)
		}
		for disk := range 3 {
			reads(t, r, disk, disk, 100)
		}
	}
}

// The chapter's example: the first one lasts (the only number is asked of all others, too).
func TestRestoreOfOne(t *testing.T) {
	r := rack(t, 2, 2)
	is(t, "Write", r.Write(1, 1, full(3)), api.OK)
	r.Restore([]int{1})
	lasts(t, r, 1, 1, 3)
	is(t, "Write", r.Write(1, 0, full(4)), api.OK)
	is(t, "Write", r.Write(0, 1, full(5)), api.OK)
	r.Restore([]int{1, 2})
	lasts(t, r, 0, 1, 5)
	lasts(t, r, 1, 0, 0)
}

func TestRestoreGivesPower(t *testing.T) {
	r := rack(t, 2, 1)
	cutOff(t, r)
	r.Restore(nil)
	if r.Off() {
		t.Error("the power is off")
	}
	for range 20 {
		is(t, "Write", r.Write(0, 0, full(1)), api.OK)
	}
	r.Arm(0)
	r.Restore(nil)
	is(t, "armed ahead of it", r.Write(0, 0, full(1)), api.OK)
	cutOff(t, r)
	r.Arm(0)
	r.Restore(nil)
	is(t, "armed without power", r.Write(0, 0, full(1)), api.OK)
}

// With the power on, what is cached goes likewise.
func TestRestoreWithPower(t *testing.T) {
	r := rack(t, 1, 2)
	is(t, "Write", r.Write(0, 0, full(1)), api.OK)
	is(t, "Write", r.Write(0, 1, full(2)), api.OK)
	r.Restore([]int{0, 1})
	reads(t, r, 0, 0, 0)
	reads(t, r, 0, 1, 2)
	is(t, "Flush", r.Flush(0), api.OK)
	lasts(t, r, 0, 0, 0)
	r.Restore([]int{1})
	lasts(t, r, 0, 0, 0)
}

func TestRestoreLeavesDoomed(t *testing.T) {
	r := rack(t, 2, 1)
	is(t, "Doom", r.Doom(1, 1), api.OK)
	r.Restore([]int{1})
	is(t, "Write", r.Write(1, 0, full(1)), api.OK)
	r.Restore([]int{1})
	is(t, "Write", r.Write(1, 0, full(2)), api.ErrFailed)
	r.Restore([]int{1})
	if !r.Failed(1) {
		t.Error("a failed disk came back")
	}
	lasts(t, r, 1, 0, 1)
}

// Of a disk that has failed nothing cached lasts, but it is numbered.
func TestRestoreOfFailed(t *testing.T) {
	for _, c := range []struct {
		keeps []int
		want  [3]byte
	}{
		{[]int{1}, [3]byte{1, 50, 3}},
		{[]int{0, 0, 1}, [3]byte{0, 50, 3}},
		{[]int{1, 1, 0}, [3]byte{1, 50, 0}},
		{[]int{0, 1}, [3]byte{0, 50, 0}},
	} {
		r := rack(t, 3, 2)
		store(t, r, 1, 0, 50)
		for disk := range 3 {
			is(t, "Write", r.Write(disk, 0, full(byte(disk+1))), api.OK)
		}
		lose(t, r, 1)
		cutOff(t, r)
		r.Restore(c.keeps)
		for disk, want := range c.want {
			lasts(t, r, disk, 0, want)
		}
		refuses(t, r, 1, 0, api.ErrFailed)
	}
}

// A failed disk's cached sectors are gone behind a restore: at the next one they have no numbers.
func TestFailedIsNumberedOnce(t *testing.T) {
	r := rack(t, 2, 1)
	is(t, "Write", r.Write(0, 0, full(1)), api.OK)
	lose(t, r, 0)
	r.Restore([]int{1})
	is(t, "Write", r.Write(1, 0, full(2)), api.OK)
	r.Restore([]int{1, 0})
	lasts(t, r, 0, 0, 0)
	lasts(t, r, 1, 0, 2)
}

func TestLoad(t *testing.T) {
	whole := make([]byte, 3*api.SectorSize)
	for i := range whole {
		whole[i] = byte(i%250 + 1)
	}
	for _, n := range []int{0, 1, 63, 64, 65, 100, 128, 191, 192} {
		checkLoad(t, whole[:n])
	}
	checkLoad(t, nil)
	checkLoad(t, append(bytes.Clone(whole), 1))
	checkLoad(t, append(bytes.Clone(whole), whole...))
}

// checkLoad loads an image on a disk of 3 sectors, and looks at all of the rack.
func checkLoad(t *testing.T, image []byte) {
	t.Helper()
	r := rack(t, 3, 3)
	for n := range 9 {
		is(t, "Write", r.Write(n/3, n%3, full(200)), api.OK)
	}
	is(t, "Flush", r.Flush(1), api.OK)
	is(t, "Write", r.Write(1, 1, full(201)), api.OK)
	is(t, "Load", r.Load(1, image), api.OK)
	want := make([]byte, 3*api.SectorSize)
	copy(want, image)
	for sector := range 3 {
		piece := want[sector*api.SectorSize : (sector+1)*api.SectorSize]
		if b, err := r.Read(1, sector); err != api.OK || !bytes.Equal(b, piece) {
			t.Errorf("%d bytes: sector %d reads %v, %v", len(image), sector, b, err)
		}
		if b, err := r.Lasting(1, sector); err != api.OK || !bytes.Equal(b, piece) {
			t.Errorf("%d bytes: of sector %d lasts %v, %v", len(image), sector, b, err)
		}
		for _, disk := range []int{0, 2} {
			reads(t, r, disk, sector, 200)
			lasts(t, r, disk, sector, 0)
		}
	}
	r.Restore([]int{0, 0, 0, 1, 1, 1})
	lasts(t, r, 0, 2, 0)
	lasts(t, r, 2, 0, 200)
	if b, _ := r.Lasting(1, 1); !bytes.Equal(b, want[64:128]) {
		t.Errorf("%d bytes: something was cached behind Load", len(image))
	}
}

func TestLoadOfTheGreatestDisk(t *testing.T) {
	r := rack(t, 17, 4096)
	is(t, "Load", r.Load(16, bytes.Repeat([]byte{8}, 4096*api.SectorSize+7)), api.OK)
	reads(t, r, 16, 0, 8)
	reads(t, r, 16, 4095, 8)
	reads(t, r, 15, 4095, 0)
	is(t, "Load", r.Load(16, full(9)), api.OK)
	reads(t, r, 16, 0, 9)
	reads(t, r, 16, 4095, 0)
}

func TestLoadNoDisk(t *testing.T) {
	r := rack(t, 2, 2)
	for _, disk := range append(strange(), 2) {
		is(t, "Load", r.Load(disk, full(1)), api.ErrSector)
		is(t, "Load", r.Load(disk, nil), api.ErrSector)
	}
	for n := range 4 {
		reads(t, r, n/2, n%2, 0)
	}
}

// Load neither mends a disk nor gives power, nor is it hindered by either; what was doomed stays so.
func TestLoadOfFailedAndWithoutPower(t *testing.T) {
	r := rack(t, 2, 1)
	is(t, "Write", r.Write(0, 0, full(1)), api.OK)
	lose(t, r, 0)
	is(t, "Load", r.Load(0, full(5)), api.OK)
	lasts(t, r, 0, 0, 5)
	refuses(t, r, 0, 0, api.ErrFailed)
	cutOff(t, r)
	is(t, "Load", r.Load(0, full(6)), api.OK)
	is(t, "Load", r.Load(1, full(7)), api.OK)
	is(t, "Load", r.Load(2, full(7)), api.ErrSector)
	lasts(t, r, 0, 0, 6)
	lasts(t, r, 1, 0, 7)
	refuses(t, r, 1, 0, api.ErrDead)
	r.Restore([]int{1})
	lasts(t, r, 0, 0, 6)
	reads(t, r, 1, 0, 7)
	is(t, "Doom", r.Doom(1, 0), api.OK)
	is(t, "Load", r.Load(1, full(8)), api.OK)
	is(t, "Write", r.Write(1, 0, full(9)), api.ErrFailed)
}

func TestLasting(t *testing.T) {
	r := rack(t, 2, 2)
	store(t, r, 0, 1, 4)
	is(t, "Write", r.Write(0, 1, full(5)), api.OK)
	lasts(t, r, 0, 1, 4)
	lose(t, r, 0)
	lasts(t, r, 0, 1, 4)
	cutOff(t, r)
	lasts(t, r, 0, 1, 4)
	lasts(t, r, 1, 1, 0)
	for _, n := range append(strange(), 2) {
		for _, c := range []api.Spot{{Disk: n, Sector: 0}, {Disk: 0, Sector: n}, {Disk: n, Sector: n}} {
			if b, err := r.Lasting(c.Disk, c.Sector); err != api.ErrSector || len(b) != 0 {
				t.Errorf("Lasting of %v: %v, %v", c, b, err)
			}
		}
	}
}

func TestFailed(t *testing.T) {
	r := rack(t, 3, 1)
	lose(t, r, 1)
	for _, disk := range append(strange(), 0, 2, 3) {
		if r.Failed(disk) {
			t.Errorf("disk %d has failed", disk)
		}
	}
	cutOff(t, r)
	if !r.Failed(1) || r.Failed(0) {
		t.Error("without power:", r.Failed(1), r.Failed(0))
	}
}

func TestOff(t *testing.T) {
	r := rack(t, 2, 1)
	r.Arm(0)
	if r.Off() {
		t.Error("off without a call")
	}
	reads(t, r, 0, 0, 0)
	is(t, "Write", r.Write(1, 0, full(1)), api.ErrDead)
	if !r.Off() {
		t.Error("on behind the call")
	}
}

// behind is a list with room behind it, in memory that the second result tells all of.
func behind(b []byte) ([]byte, []byte) {
	all := append(bytes.Clone(b), full(0xEE)...)
	return all[:len(b)], all
}

// spoil turns all bytes of a list, and of its spare room.
func spoil(b []byte) {
	b = b[:cap(b)]
	for i := range b {
		b[i] ^= 0xFF
	}
}

func TestBytesHandedInAreApart(t *testing.T) {
	r := rack(t, 2, 2)
	b, all := behind(full(1))
	image, allOfImage := behind(full(2))
	was, wasImage := bytes.Clone(all), bytes.Clone(allOfImage)
	is(t, "Write", r.Write(0, 0, b), api.OK)
	is(t, "Write", r.Write(0, 1, b), api.OK)
	is(t, "Load", r.Load(1, image), api.OK)
	is(t, "Flush", r.Flush(0), api.OK)
	is(t, "Write", r.Write(0, 1, b), api.OK)
	is(t, "Write", r.Write(1, 0, full(3)), api.OK)
	is(t, "Flush", r.Flush(1), api.OK)
	is(t, "Load", r.Load(1, image), api.OK)
	if !bytes.Equal(all, was) || !bytes.Equal(allOfImage, wasImage) {
		t.Error("what was handed in was changed")
	}
	spoil(all)
	spoil(allOfImage)
	for sector := range 2 {
		reads(t, r, 0, sector, 1)
		lasts(t, r, 0, sector, 1)
	}
	reads(t, r, 1, 0, 2)
	reads(t, r, 1, 1, 0)
}

func TestKeepsAreApart(t *testing.T) {
	all := []int{1, 0, 77, 78}
	keeps := all[:2]
	r := rack(t, 1, 3)
	for sector := range 3 {
		is(t, "Write", r.Write(0, sector, full(byte(sector+1))), api.OK)
	}
	r.Restore(keeps)
	for i, want := range []int{1, 0, 77, 78} {
		if all[i] != want {
			t.Error("what was handed in was changed:", all)
		}
	}
	lasts(t, r, 0, 0, 1)
	lasts(t, r, 0, 1, 0)
	lasts(t, r, 0, 2, 3)
	all[1] = 1
	is(t, "Write", r.Write(0, 1, full(9)), api.OK)
	r.Restore(nil)
	lasts(t, r, 0, 1, 0)
}

func TestAnswersAreNewMemory(t *testing.T) {
	r := rack(t, 1, 2)
	store(t, r, 0, 0, 1)
	is(t, "Write", r.Write(0, 1, full(2)), api.OK)
	for range 3 {
		for sector := range 2 {
			b, _ := r.Read(0, sector)
			other, _ := r.Read(0, sector)
			lasting, _ := r.Lasting(0, sector)
			spoil(b)
			spoil(lasting)
			if !bytes.Equal(other, full(byte(sector+1))) {
				t.Error("two answers share memory")
			}
		}
		reads(t, r, 0, 0, 1)
		reads(t, r, 0, 1, 2)
		lasts(t, r, 0, 0, 1)
		lasts(t, r, 0, 1, 0)
	}
	is(t, "Flush", r.Flush(0), api.OK)
	lasts(t, r, 0, 0, 1)
	lasts(t, r, 0, 1, 2)
}

// An answer stays as it was, whatever the rack does then.
func TestAnswersStay(t *testing.T) {
	r := rack(t, 1, 1)
	is(t, "Write", r.Write(0, 0, full(1)), api.OK)
	cached, _ := r.Read(0, 0)
	is(t, "Flush", r.Flush(0), api.OK)
	read, _ := r.Read(0, 0)
	lasting, _ := r.Lasting(0, 0)
	store(t, r, 0, 0, 2)
	is(t, "Load", r.Load(0, full(3)), api.OK)
	for i, b := range [][]byte{cached, read, lasting} {
		if !bytes.Equal(b, full(1)) {
			t.Errorf("answer %d is %v now", i, b)
		}
	}
}

func TestRacksAreApart(t *testing.T) {
	one, other := rack(t, 2, 2), rack(t, 2, 2)
	store(t, one, 0, 0, 1)
	lose(t, one, 1)
	cutOff(t, one)
	reads(t, other, 0, 0, 0)
	if other.Off() || other.Failed(1) {
		t.Error("two racks share something")
	}
}
