package scan

import (
	"bytes"
	"slices"
	"strconv"
	"testing"

	"moraine/api"
	"moraine/stripe"
)

// seqOf: a sector's Seq, by the plainest means.
func seqOf(b []byte) int {
	return two(b) + 65536*two(b[2:])
}

// plainLook: what Look answers, by the plainest means, from the rack alone.
func (a *array) plainLook() ([]api.Info, int, api.Errno) {
	if a.r.Off() {
		return nil, 0, api.ErrDead
	}
	var list []api.Info
	most := 0
	for seg := range a.g.Segs {
		seq, ok := a.plainWhole(seg)
		first := a.plainFirst(seg, seq)
		if ok && len(first) == 64 && two(first[4:]) == 65535 && two(first[6:]) == 0 {
			if s, ok := numbersOf(first[8:]); ok && right(a.g, s) {
				list = append(list, api.Info{Seg: seg, Seq: seq, Summary: s})
			}
		}
	}
	for disk := range a.g.Disks + 1 {
		for n := 5; n < 5+a.g.Segs*a.g.Rows; n++ {
			data, err := a.r.Read(disk, n)
			replaced := a.m.State != api.Unused && disk == a.m.Slot
			if err == api.OK && !replaced {
				most = max(most, seqOf(data))
			}
		}
	}
	return list, most, api.OK
}

// plainWhole: the Seq of a segment that is whole, and whether it is.
func (a *array) plainWhole(seg int) (int, bool) {
	var seqs []int
	for n := range a.g.Rows * a.g.Disks {
		data, err := a.r.Read(a.disk(n%a.g.Disks), sectorOf(a.g, seg, n/a.g.Disks))
		if err == api.OK && !a.bad(n%a.g.Disks) {
			seqs = append(seqs, seqOf(data))
		}
	}
	if a.badOnes() > 1 || len(seqs) == 0 || slices.Min(seqs) != slices.Max(seqs) {
		return 0, false
	}
	return seqs[0], seqs[0] > 0
}

// plainFirst: the sector of a segment's block 0, its own or the one that the others of its row come to; none, if neither is of this Seq.
func (a *array) plainFirst(seg, seq int) []byte {
	own, n := slotOf(a.g, seg, 0, 0), sectorOf(a.g, seg, 0)
	if data, err := a.r.Read(a.disk(own), n); err == api.OK && seqOf(data) == seq {
		return data
	}
	sum := make([]byte, 64)
	for slot := range a.g.Disks {
		if slot == own {
			continue
		}
		data, err := a.r.Read(a.disk(slot), n)
		if err != api.OK || seqOf(data) != seq {
			return nil
		}
		for i := range data {
			sum[i] ^= data[i]
		}
	}
	return sum
}

// walk chooses numbers by a fixed rule, and counts what was answered.
type walk struct {
	state uint64
	seen  map[string]int
}

// below: a number below n.
func (w *walk) below(n int) int {
	w.state = w.state*6364136223846793005 + 1442695040888963407
	return int(w.state>>33) % n
}

// summary: mostly one that is right, of a small group.
func (w *walk) summary(g api.Geometry) api.Summary {
	s := api.Summary{Count: 1 + w.below(3), Blocks: w.below(places(g) + 1)}
	s.Index = w.below(s.Count)
	if s.Index == s.Count-1 {
		s.Root = 1 + w.below(g.Segs*places(g))
	}
	switch w.below(20) {
	case 0:
		s.Index++
	case 1:
		s.Root = g.Segs*places(g) + 1
	}
	return s
}

// harm gives a sector of any disk another byte.
func (w *walk) harm(a *array) {
	disk, n, at := w.below(5), 5+w.below(6), []int{0, 0, 3, 4, 8, 10, 63}[w.below(7)]
	if data, err := a.r.Read(disk, n); err == api.OK {
		data[at] ^= 1
		a.r.Write(disk, n, data)
	}
}

// step does one thing with an array.
func (w *walk) step(a *array) {
	switch w.below(20) {
	case 0:
		a.r.Arm(w.below(15))
	case 1:
		a.r.Doom(w.below(5), w.below(15))
	case 2, 3:
		a.r.Restore([]int{w.below(2), w.below(2), 1})
	case 4, 5:
		a.m = api.Member{Slot: w.below(4), State: w.below(3)}
		a.b.Join(a.m)
	case 6:
		w.harm(a)
	case 7, 8:
		stripe.Refill(a.b, w.below(3), w.below(4), 1+w.below(6))
	case 9:
		a.b.Flush()
	default:
		stripe.Write(a.b, w.below(3), 1+w.below(6), []api.Block{plain(w.summary(a.g)), {Owner: w.below(9)}})
	}
}

// looksPlainly: does Look answer what the plainest way does, and Groups of it?
func (w *walk) looksPlainly(a *array) bool {
	got, n, err := Look(a.b)
	want, most, wantErr := a.plainLook()
	w.seen[err.Error()+" "+strconv.Itoa(len(got))]++
	groups := Groups(got)
	w.seen[strconv.Itoa(len(groups))+" groups"]++
	return slices.Equal(got, want) && n == most && err == wantErr && slices.EqualFunc(groups, plainGroups(want), alike)
}

// Many calls in many orders on one rack: at each step Look answers what the plainest way does, and twice the same.
func TestWalks(t *testing.T) {
	seen := make(map[string]int)
	for seed := range 300 {
		w := &walk{state: uint64(seed), seen: seen}
		a := open(t, small(), unused())
		for i := range 100 {
			w.step(a)
			if !w.looksPlainly(a) || !w.looksPlainly(a) {
				t.Fatalf("walk %d, step %d: it isn't as the plainest way is", seed, i)
			}
		}
	}
	for _, answer := range []string{"error 12 0", "error  0", "error  1", "error  2", "error  3", "0 groups", "1 groups", "2 groups", "3 groups"} {
		if seen[answer] < 20 {
			t.Errorf("%q came %d times", answer, seen[answer])
		}
		delete(seen, answer)
	}
	for answer := range seen {
		t.Errorf("%q isn't an answer", answer)
	}
}

// Two racks have nothing in common, and two banks on one rack see the same.
func TestNothingIsKept(t *testing.T) {
	a, b := open(t, small(), unused()), open(t, small(), unused())
	x := a.lays(t, 4, 3, alone(1))
	b.looks(t, 0)
	y := b.lays(t, 5, 2, alone(2))
	a.looks(t, 3, x)
	b.looks(t, 2, y)
	c := &array{g: a.g, m: a.m, b: a.b, r: a.r}
	z := c.lays(t, 3, 8, alone(3))
	a.looks(t, 8, z, x)
	b.looks(t, 2, y)
}

// The plainest way tells by itself what was written.
func TestPlainLook(t *testing.T) {
	for _, g := range geometries() {
		a := open(t, g, unused())
		s := api.Summary{Count: 2, Index: 1, Blocks: 1, Root: g.Segs * places(g)}
		want := []api.Info{a.lays(t, 3, 1<<32-1, s)}
		got, most, err := a.plainLook()
		if !slices.Equal(got, want) || most != 1<<32-1 || err != api.OK || !bytes.Equal(a.plainFirst(3, most), raw(most, plain(s))) {
			t.Errorf("%v: %v, %d, %v", g, got, most, err)
		}
	}
}
