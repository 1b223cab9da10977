package block

import (
	"testing"
)

// walk chooses by a fixed rule.
type walk struct {
	state uint64
	seen  map[string]int
}

// below: a number below n.
func (w *walk) below(n int) int {
	w.state = w.state*6364136223846793005 + 1442695040888963407
	return int(w.state>>33) % n
}

// one of these numbers.
func (w *walk) one(of ...int) int {
	return of[w.below(len(of))]
}

// saw counts what was seen of a kind.
func (w *walk) saw(kind string) {
	w.seen[kind]++
}

// block: mostly one that there can be, often one of a few.
func (w *walk) block() int {
	switch w.below(12) {
	case 0:
		return w.one(nowheres()...)
	case 1:
		return w.one(-1, 0, 827, 828)
	case 2, 3, 4:
		return w.below(828)
	default:
		return w.below(20)
	}
}

// address: mostly one that there can be, often one of a few.
func (w *walk) address() int {
	switch w.below(15) {
	case 0:
		return w.one(noAddresses()...)
	case 1:
		return w.one(-1, 0, 1, 65535, 65536)
	case 2:
		return 1 + w.below(65535)
	default:
		return 1 + w.below(9)
	}
}

// bytes: mostly 56, often noughts, or noughts but one.
func (w *walk) bytes() []byte {
	b := make([]byte, 56)
	switch w.below(6) {
	case 0:
		return b
	case 1:
		return filled(byte(w.below(256)))[:w.one(0, 1, 54, 55)]
	case 2:
		return append(b, byte(w.below(2)))
	case 3:
		b[w.below(56)] = byte(w.below(256))
	default:
		for i := range b {
			b[i] = byte(w.below(256))
		}
	}
	return b
}

// step does one call to a pair, and answers another pair, if it is a Clone.
func (w *walk) step(x *pair) *pair {
	switch w.below(12) {
	case 0, 1, 2, 3:
		k, b := w.block(), w.bytes()
		x.put(k, b)
		w.saw("put of " + []string{"none", "at", "new"}[x.p.of(k).kind])
	case 4, 5, 6:
		k := w.block()
		was := x.p.of(k).kind
		x.place(k, w.address())
		w.saw("place of " + []string{"none", "at", "new"}[was] + ", behind it " + []string{"none", "at", "new"}[x.p.of(k).kind])
	case 7, 8, 9:
		from, to := w.address(), w.address()
		before := x.p
		x.move(from, to)
		w.saw("move")
		if before != x.p {
			w.saw("move of some")
		}
	case 10:
		if w.below(4) == 0 {
			x.cut(w.one(w.block(), 20, 100, 500))
			w.saw("cut")
		}
	default:
		w.saw("clone")
		return x.clone()
	}
	return nil
}

// Long rows of calls, on many maps, of which some are another one's clones, against the plainest way.
func TestWalks(t *testing.T) {
	w := &walk{state: 5, seen: make(map[string]int)}
	for range 60 {
		var addresses []int
		for range w.one(0, 1, 10, w.below(829), 828) {
			addresses = append(addresses, w.one(0, 1+w.below(9), 1+w.below(65535)))
		}
		maps := []*pair{both(t, addresses...)}
		for range 1500 {
			x := maps[w.below(len(maps))]
			if y := w.step(x); y != nil && len(maps) < 6 {
				maps = append(maps, y)
			}
			if w.below(10) == 0 {
				x.lists()
			}
		}
		for _, x := range maps {
			x.same()
		}
	}
	for _, kind := range []string{"put of none", "put of at", "put of new", "place of none, behind it none", "place of at, behind it at", "place of new, behind it new", "place of new, behind it at", "move", "move of some", "cut", "clone"} {
		if w.seen[kind] < 300 {
			t.Errorf("%s: %d times", kind, w.seen[kind])
		}
	}
}

// Short rows of all calls of a few, each behind each: what one leaves the next ones find.
func TestAllShortRows(t *testing.T) {
	calls := []func(*pair){
		func(x *pair) { x.put(0, filled(1)) },
		func(x *pair) { x.put(1, filled(2)) },
		func(x *pair) { x.put(0, make([]byte, 56)) },
		func(x *pair) { x.put(1, filled(2)[:55]) },
		func(x *pair) { x.place(0, 5) },
		func(x *pair) { x.place(1, 6) },
		func(x *pair) { x.place(0, 0) },
		func(x *pair) { x.move(5, 6) },
		func(x *pair) { x.move(6, 5) },
		func(x *pair) { x.move(6, 65536) },
		func(x *pair) { x.cut(1) },
		func(x *pair) { x.cut(0) },
	}
	for _, first := range calls {
		for _, second := range calls {
			for _, third := range calls {
				for _, fourth := range calls {
					x := unlooked(t, []int{5, 6, 5})
					for _, call := range []func(*pair){first, second, third, fourth} {
						call(x)
					}
					for k := -1; k < 5; k++ {
						x.is(k)
					}
					x.lists()
				}
			}
		}
	}
}
