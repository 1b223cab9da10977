package stripe

import (
	"bytes"
	"slices"
	"testing"

	"moraine/api"
	"moraine/device"
)

// twin does the same calls over again in the plainest way, on a rack of its own.
type twin struct{ array }

// get: a slot's sector in a row, if it can be read and has this Seq.
func (w *twin) get(seg, row, slot, seq int) ([]byte, bool) {
	data, err := w.read(seg, row, slot)
	return data, err == api.OK && seq >= 0 && seq < 1<<32 && bytes.Equal(data[:4], plain(seq, api.Block{})[:4])
}

// others: what all other slots of a row tell of one, if each of them can be read and has this Seq.
func (w *twin) others(seg, row, slot, seq int) ([]byte, bool) {
	sum := plain(seq, api.Block{})
	for other := range w.g.Disks {
		data, ok := w.get(seg, row, other, seq)
		if other != slot && !ok {
			return nil, false
		}
		for i := 4; i < 64 && other != slot; i++ {
			sum[i] ^= data[i]
		}
	}
	return sum, true
}

// asks: ErrRange, ErrDead, or OK.
func (w *twin) asks(seg, n, below int) api.Errno {
	switch {
	case seg < 0 || seg >= w.g.Segs || n < 0 || n >= below:
		return api.ErrRange
	case w.r.Off():
		return api.ErrDead
	}
	return api.OK
}

func (w *twin) write(seg, seq int, blocks []api.Block) api.Errno {
	if seg < 0 || seg >= w.g.Segs || seq < 1 || seq >= 1<<32 {
		return api.ErrRange
	}
	for _, b := range blocks {
		if len(blocks) > perSeg(w.g) || b.Owner > 65535 || b.Index > 65535 || len(b.Data) > 56 {
			return api.ErrRoom
		}
	}
	if w.badOnes() > 1 {
		return api.ErrIO
	}
	image := imageOf(w.g, seg, seq, blocks)
	for n := range w.g.Rows * w.g.Disks {
		row, slot := n/w.g.Disks, slotOf(w.g, seg, n/w.g.Disks, n%w.g.Disks)
		if w.r.Write(w.disk(slot), sectorOf(w.g, seg, row), image[row][slot]) == api.ErrDead {
			return api.ErrDead
		}
	}
	if w.badOnes() > 1 {
		return api.ErrIO
	}
	return api.OK
}

func (w *twin) block(seg, k, seq int) (api.Block, api.Errno) {
	if err := w.asks(seg, k, perSeg(w.g)); err != api.OK {
		return api.Block{}, err
	}
	row := k / (w.g.Disks - 1)
	slot := slotOf(w.g, seg, row, k%(w.g.Disks-1))
	data, ok := w.get(seg, row, slot, seq)
	if !ok {
		data, ok = w.others(seg, row, slot, seq)
	}
	if !ok {
		return api.Block{}, api.ErrIO
	}
	return api.Block{Owner: int(data[4]) | int(data[5])<<8, Index: int(data[6]) | int(data[7])<<8, Data: data[8:]}, api.OK
}

func (w *twin) whole(seg int) (int, bool, api.Errno) {
	if err := w.asks(seg, 0, 1); err != api.OK {
		return 0, false, err
	}
	var heads [][]byte
	for n := range w.g.Rows * w.g.Disks {
		if data, err := w.read(seg, n/w.g.Disks, n%w.g.Disks); err == api.OK && !w.bad(n%w.g.Disks) {
			heads = append(heads, data[:4])
		}
	}
	for _, h := range heads {
		if !bytes.Equal(h, heads[0]) || w.badOnes() > 1 {
			return 0, false, api.OK
		}
	}
	seq := 0
	for i := 3; i >= 0 && len(heads) > 0; i-- {
		seq = 256*seq + int(heads[0][i])
	}
	return seq, seq > 0, api.OK
}

func (w *twin) missing(seg, slot, seq int) (bool, api.Errno) {
	if err := w.asks(seg, slot, w.g.Disks); err != api.OK {
		return false, err
	}
	lacks := false
	for row := range w.g.Rows {
		_, ok := w.get(seg, row, slot, seq)
		lacks = lacks || !ok
	}
	return lacks, api.OK
}

func (w *twin) refill(seg, slot, seq int) api.Errno {
	if err := w.asks(seg, slot, w.g.Disks); err != api.OK {
		return err
	}
	for row := range w.g.Rows {
		if _, ok := w.get(seg, row, slot, seq); ok {
			continue
		}
		data, ok := w.others(seg, row, slot, seq)
		if !ok {
			return api.ErrIO
		}
		if err := w.r.Write(w.disk(slot), sectorOf(w.g, seg, row), data); err != api.OK {
			return err
		}
	}
	return api.OK
}

func (w *twin) sound(seg, seq int) (bool, api.Errno) {
	if err := w.asks(seg, 0, 1); err != api.OK {
		return false, err
	}
	sound := true
	for n := range w.g.Rows * w.g.Disks {
		row, slot := n/w.g.Disks, n%w.g.Disks
		data, ok := w.get(seg, row, slot, seq)
		want, told := w.others(seg, row, slot, seq)
		sound = sound && ok && told && bytes.Equal(data, want)
	}
	return sound, api.OK
}

// walk chooses numbers by a fixed rule, and counts what was answered.
type walk struct {
	state uint64
	seen  map[string]int
}

// below: a number below n.
func (w *walk) below(n int) int {
	w.state = w.state*6364136223846793005 + 1442695040888963407
	return int(w.state>>33) % n
}

// saw counts an answer of a call.
func (w *walk) saw(call string, err api.Errno, more string) {
	w.seen[call+" "+err.Error()+more]++
}

// seg: one of two segments, mostly.
func (w *walk) seg() int {
	return []int{0, 0, 0, 0, 15, 15, 15, 15, 15, 16}[w.below(10)]
}

// blocks: mostly ones that a segment can have.
func (w *walk) blocks() []api.Block {
	blocks := some(w.below(7), w.below(50))
	if w.below(20) == 0 {
		blocks = append(blocks, api.Block{Owner: 65536})
	}
	return blocks
}

// onBoth does something with the racks themselves.
func (w *walk) onBoth(racks ...*device.Rack) {
	what, n, m := w.below(12), w.below(12), w.below(5)
	for _, r := range racks {
		switch {
		case what < 3:
			r.Arm(n)
		case what < 5:
			r.Doom(m, n)
		default:
			r.Restore([]int{n, m, 1})
		}
	}
}

// harm gives a sector of a slot another byte on both.
func (w *walk) harm(a, o *array) {
	sector, slot, at := []int{5, 6, 35, 36}[w.below(4)], w.below(4), []int{0, 0, 8, 63}[w.below(4)]
	for _, x := range []*array{a, o} {
		if data, err := x.r.Read(x.disk(slot), sector); err == api.OK {
			data[at] ^= 1
			x.r.Write(x.disk(slot), sector, data)
		}
	}
}

// looks does one call that changes nothing on both, and tells whether their answers are alike.
func (w *walk) looks(a *array, o *twin) bool {
	seg, seq, slot, k := w.seg(), 1+w.below(3), w.below(5), w.below(7)
	switch w.below(4) {
	case 0:
		got, err := Read(a.b, seg, k, seq)
		want, wantErr := o.block(seg, k, seq)
		w.saw("Read", err, "")
		return err == wantErr && same(got, want)
	case 1:
		got, ok, err := Whole(a.b, seg)
		want, wantOK, wantErr := o.whole(seg)
		w.saw("Whole", err, map[bool]string{true: " yes", false: " no"}[ok])
		return got == want && ok == wantOK && err == wantErr
	case 2:
		got, err := Missing(a.b, seg, slot, seq)
		want, wantErr := o.missing(seg, slot, seq)
		w.saw("Missing", err, map[bool]string{true: " yes", false: " no"}[got])
		return got == want && err == wantErr
	default:
		got, err := Sound(a.b, seg, seq)
		want, wantErr := o.sound(seg, seq)
		w.saw("Sound", err, map[bool]string{true: " yes", false: " no"}[got])
		return got == want && err == wantErr
	}
}

// step does one call on both, and tells whether their answers are alike.
func (w *walk) step(a *array, o *twin) bool {
	seg, seq, slot := w.seg(), w.below(4), w.below(5)
	switch w.below(16) {
	case 0:
		w.onBoth(a.r, o.r)
	case 1:
		a.m = api.Member{Slot: w.below(4), State: w.below(3)}
		o.m = a.m
		a.b.Join(a.m)
	case 2:
		w.harm(a, &o.array)
	case 3, 4, 5:
		blocks := w.blocks()
		err := Write(a.b, seg, seq, blocks)
		w.saw("Write", err, "")
		return err == o.write(seg, seq, blocks)
	case 6, 7, 8:
		err := Refill(a.b, seg, slot, seq)
		w.saw("Refill", err, "")
		return err == o.refill(seg, slot, seq)
	default:
		return w.looks(a, o)
	}
	return true
}

// sameRacks: do both racks tell the same of all their sectors, and are the same disks and the power gone?
func sameRacks(a, b *device.Rack) bool {
	for disk := range 5 {
		for _, sector := range []int{0, 4, 5, 6, 7, 8, 33, 34, 35, 36} {
			got, err := a.Read(disk, sector)
			want, wantErr := b.Read(disk, sector)
			last, _ := a.Lasting(disk, sector)
			wantLast, _ := b.Lasting(disk, sector)
			if err != wantErr || !bytes.Equal(got, want) || !bytes.Equal(last, wantLast) {
				return false
			}
		}
		if a.Failed(disk) != b.Failed(disk) {
			return false
		}
	}
	return a.Off() == b.Off()
}

// Many calls in many orders on one rack: each does and answers what the plainest way does; all answers there are come among them.
func TestWalks(t *testing.T) {
	seen := make(map[string]int)
	for seed := range 2000 {
		w := &walk{state: uint64(seed), seen: seen}
		a := open(t, small(), unused())
		o := &twin{array: *open(t, small(), unused())}
		for i := range 100 {
			if !w.step(a, o) || !sameRacks(a.r, o.r) {
				t.Fatalf("walk %d, step %d: it isn't as the plainest way is", seed, i)
			}
		}
	}
	for _, answer := range []string{
		"Write error ", "Write error 28", "Write error 41", "Write error 14", "Write error 12",
		"Read error ", "Read error 28", "Read error 12", "Read error 14",
		"Whole error  yes", "Whole error  no", "Whole error 28 no", "Whole error 12 no",
		"Missing error  yes", "Missing error  no", "Missing error 28 no", "Missing error 12 no",
		"Refill error ", "Refill error 28", "Refill error 12", "Refill error 14", "Refill error 13",
		"Sound error  yes", "Sound error  no", "Sound error 28 no", "Sound error 12 no",
	} {
		if seen[answer] < 20 {
			t.Errorf("%q came %d times", answer, seen[answer])
		}
		delete(seen, answer)
	}
	for answer := range seen {
		t.Errorf("%q isn't an answer", answer)
	}
}

// The walks' twin reads by a plain image what it has written: it stands by itself.
func TestTwin(t *testing.T) {
	o := &twin{array: *open(t, small(), unused())}
	blocks := some(5, 1)
	is(t, "write", o.write(15, 3, blocks), api.OK)
	o.holdsOnly(t, map[int][][][]byte{15: imageOf(small(), 15, 3, blocks)})
	var got []api.Block
	for k := range 6 {
		block, err := o.block(15, k, 3)
		is(t, "block", err, api.OK)
		got = append(got, block)
	}
	if !slices.EqualFunc(got, padded(small(), blocks), same) {
		t.Error(got)
	}
}
