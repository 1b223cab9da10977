package inode

import (
	"slices"
	"testing"

	"moraine/api"
)

// walk chooses by a fixed rule.
type walk struct {
	state uint64
	seen  map[string]int
}

// below: a number below n.
func (w *walk) below(n int) int {
	w.state = w.state*6364136223846793005 + 1442695040888963407
	return int(w.state>>33) % n
}

// one of these numbers.
func (w *walk) one(of ...int) int {
	return of[w.below(len(of))]
}

// saw counts what was seen of a kind.
func (w *walk) saw(kind string, is bool) {
	if !is {
		kind = "no " + kind
	}
	w.seen[kind]++
}

// all were seen so often at least.
func (w *walk) all(t *testing.T, most int, kinds ...string) {
	t.Helper()
	for _, kind := range kinds {
		if w.seen[kind] < most {
			t.Errorf("%s: %d times", kind, w.seen[kind])
		}
	}
}

// size: mostly one that a file may have, often at a block's end.
func (w *walk) size() int {
	switch w.below(6) {
	case 0:
		return 56*w.below(830) + w.one(-1, 0, 1)
	case 1:
		return 56*w.one(0, 1, 15, 16, 17, 43, 44, 45, 71, 72, 827, 828) + w.one(-1, 0, 1)
	case 2:
		return w.below(1000)
	default:
		return w.below(46369)
	}
}

// pointer: mostly one that can be.
func (w *walk) pointer() int {
	switch w.below(30) {
	case 0:
		return w.one(strange(w.below(65536))...)
	case 1:
		return w.one(0, 65535, 65536, -1)
	default:
		return w.below(65536)
	}
}

// record: mostly one that is right.
func (w *walk) record() api.Record {
	r := api.Record{Kind: w.one(1, 1, 2, 2, 1, 2, w.below(260)-2), Links: 1 + w.below(65535), Size: w.size()}
	if w.below(20) == 0 {
		r.Links = w.one(0, -1, 1, 65535, 65536, 1<<32+1)
	}
	tells := plainTells(r.Size)
	for at := range 18 {
		if tells[at] && w.below(3) > 0 || w.below(100) == 0 {
			p := w.below(65536)
			if w.below(60) == 0 {
				p = w.pointer()
			}
			r = with(r, at, p)
		}
	}
	return r
}

// Long walks of records against the plainest means.
func TestWalksOfRecords(t *testing.T) {
	w := &walk{state: 17, seen: make(map[string]int)}
	for range 100000 {
		r := w.record()
		holds(t, r)
		w.saw("record", plainRight(r))
		isBlocks(t, plainBlocks(r.Size), r.Size)
	}
	w.all(t, 5000, "record", "no record")
}

// Long walks of bytes: records' with some of them turned, some cut off or put on.
func TestWalksOfBytes(t *testing.T) {
	w := &walk{state: 23, seen: make(map[string]int)}
	for range 100000 {
		b := plainPut(w.record())
		for range w.below(3) {
			b[w.below(56)] = byte(w.below(256))
		}
		if w.below(10) == 0 {
			b = b[:w.below(57)]
		}
		if w.below(10) == 0 {
			b = append(b, make([]byte, w.below(4))...)
		}
		if len(b) != 56 {
			notGot(t, b)
			noPointersGot(t, b)
			w.saw("length", false)
			continue
		}
		r := plainGet(b)
		is := plainRight(r) && slices.Equal(plainPut(r), b)
		w.saw("bytes", is)
		if is {
			isRecord(t, r, b)
		} else {
			notGot(t, b)
		}
	}
	w.all(t, 5000, "bytes", "no bytes", "no length")
}

// Long walks of lists of pointers.
func TestWalksOfPointers(t *testing.T) {
	w := &walk{state: 29, seen: make(map[string]int)}
	for range 50000 {
		var list []int
		for range w.one(w.below(29), w.below(29), 28, w.below(40)) {
			p := w.below(65536)
			if w.below(40) == 0 {
				p = w.pointer()
			}
			list = append(list, p)
		}
		is := len(list) <= 28 && !slices.ContainsFunc(list, func(p int) bool { return p < 0 || p > 65535 })
		w.saw("pointers", is)
		if is {
			arePointers(t, list, plainPutPointers(list))
		} else {
			noPointers(t, list)
		}
	}
	w.all(t, 3000, "pointers", "no pointers")
}
