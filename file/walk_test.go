package file

import (
	"testing"

	"moraine/api"
)

// walk chooses by a fixed rule.
type walk struct {
	state uint64
	seen  map[string]int
}

// below: a number below n.
func (w *walk) below(n int) int {
	w.state = w.state*6364136223846793005 + 1442695040888963407
	return int(w.state>>33) % n
}

// one of these numbers.
func (w *walk) one(of ...int) int {
	return of[w.below(len(of))]
}

// saw counts what was seen of a kind, and how it ended.
func (w *walk) saw(kind string, err api.Errno) {
	switch err {
	case api.OK:
		kind += ", done"
	case api.ErrRange:
		kind += ", out of range"
	default:
		kind += ", an error of the Source"
	}
	w.seen[kind]++
}

// place: mostly one of the first ones, often one beside a block's end.
func (w *walk) place() int {
	switch w.below(14) {
	case 0:
		return w.one(noSizes()...)
	case 1:
		return w.below(46369)
	case 2:
		return w.one(46312, 46313, 46367, 46368)
	case 3, 4, 5:
		return w.below(15)*56 + w.one(-1, 0, 1)
	default:
		return w.below(800)
	}
}

// bytes: some, often noughts.
func (w *walk) bytes() []byte {
	n := w.one(0, 1, w.below(56), 56, w.below(200), 112, w.below(800))
	if w.below(150) == 0 {
		n = w.below(46400)
	}
	switch w.below(3) {
	case 0:
		return make([]byte, n)
	default:
		return rising(n, w.below(300))
	}
}

// step does one call to a pair, and answers another pair, if it is a Clone.
func (w *walk) step(x *pair) *pair {
	switch w.below(14) {
	case 0, 1, 2, 3:
		w.saw("write", x.write(w.place(), w.bytes()))
	case 4, 5, 6:
		_, err := x.read(w.place(), w.place())
		w.saw("read", err)
	case 7, 8:
		w.saw("trunc", x.trunc(w.place()))
	case 9:
		for range 5 {
			if address := x.p.cells[w.below(w.one(15, 15, 828))].address; address > 0 {
				x.p.from.wrong[address] = []api.Errno{api.ErrIO, api.ErrDead}[w.below(2)]
			}
		}
	case 10:
		if w.below(3) > 0 {
			return nil
		}
		clear(x.p.from.wrong)
	case 11, 12:
		w.placeSome(x)
	default:
		return x.clone()
	}
	return nil
}

// placeSome puts some of the new blocks at addresses that no block has, with bytes behind the end, now and then.
func (w *walk) placeSome(x *pair) {
	for k, c := range x.p.cells {
		if c.kind == isNew && w.below(2) == 0 {
			address := 1000 + len(x.p.from.bytes)
			if address > 65535 {
				return
			}
			x.place(k, address)
			w.seen["place"]++
		}
	}
}

// Long rows of calls, on many files, of which some are another one's clones, against the plainest way.
func TestWalks(t *testing.T) {
	w := &walk{state: 9, seen: make(map[string]int)}
	for range 40 {
		size := w.one(0, w.below(60), w.below(800), 560, w.below(46369), 46368)
		var addresses []int
		for range w.one(0, (size+55)/56, w.below((size+55)/56+1)) {
			addresses = append(addresses, w.one(0, 1+w.below(40), 1+w.below(900)))
		}
		all := []*pair{made(t, newDisk(), size, addresses...)}
		for range 2000 {
			x := all[w.below(len(all))]
			if y := w.step(x); y != nil && len(all) < 5 {
				all = append(all, y)
			}
			if w.below(8) == 0 {
				x.quick()
			}
			if w.below(50) == 0 {
				x.same()
			}
		}
		for _, x := range all {
			x.same()
		}
	}
	for _, kind := range []string{"write, done", "write, out of range", "write, an error of the Source", "read, done", "read, out of range", "read, an error of the Source", "trunc, done", "trunc, out of range", "trunc, an error of the Source", "place"} {
		if w.seen[kind] < 60 {
			t.Errorf("%s: %d times", kind, w.seen[kind])
		}
	}
}

// Short rows of all calls of a few, each behind each: what one leaves the next ones find.
func TestAllShortRows(t *testing.T) {
	calls := []func(*pair){
		func(x *pair) { x.write(10, rising(20, 1)) },
		func(x *pair) { x.write(50, rising(70, 2)) },
		func(x *pair) { x.write(56, make([]byte, 56)) },
		func(x *pair) { x.write(130, []byte{5}) },
		func(x *pair) { x.write(200, []byte{0}) },
		func(x *pair) { x.trunc(20) },
		func(x *pair) { x.trunc(100) },
		func(x *pair) { x.trunc(112) },
		func(x *pair) { x.trunc(160) },
		func(x *pair) { x.read(30, 80) },
		func(x *pair) { x.p.from.wrong[2] = api.ErrIO },
		func(x *pair) { x.p.from.wrong[2] = api.OK },
	}
	bytes := fewDisk().bytes
	for _, first := range calls {
		for _, second := range calls {
			for _, third := range calls {
				for _, fourth := range calls {
					x := made(t, &disk{bytes: bytes, wrong: make(map[int]api.Errno)}, 90, 1, 2)
					for _, call := range []func(*pair){first, second, third, fourth} {
						call(x)
					}
					x.quick()
					x.read(0, 500)
				}
			}
		}
	}
}
