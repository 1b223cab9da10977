package meta

import (
	"slices"
	"testing"

	"moraine/api"
)

// walk chooses by a fixed rule.
type walk struct {
	state uint64
	seen  map[string]int
}

// below: a number below n.
func (w *walk) below(n int) int {
	w.state = w.state*6364136223846793005 + 1442695040888963407
	return int(w.state>>33) % n
}

// one of these numbers.
func (w *walk) one(of ...int) int {
	return of[w.below(len(of))]
}

// saw counts what was seen of a kind.
func (w *walk) saw(kind string, is bool) {
	if !is {
		kind = "no " + kind
	}
	w.seen[kind]++
}

// all were seen so often at least.
func (w *walk) all(t *testing.T, least int, kinds ...string) {
	t.Helper()
	for _, kind := range kinds {
		if w.seen[kind] < least {
			t.Errorf("%s: %d times", kind, w.seen[kind])
		}
	}
}

// geometry: a right one.
func (w *walk) geometry() api.Geometry {
	for {
		if g := shape(3+w.below(14), 1+w.below(4), 12+w.below(53)); plainIsGeo(g) {
			return g
		}
	}
}

// node: one that is right, with some addresses of so many.
func (w *walk) node(ino, most int) api.Inode {
	blocks := w.one(0, w.below(3), w.below(17), w.below(46), w.below(100), w.below(829), 828)
	n := file(ino, make([]int, blocks)...)
	n.Kind, n.Links = 1+w.below(2), w.one(1, 2, 1+w.below(65535), 65535)
	for range w.one(0, w.below(4), w.below(30), blocks) {
		if blocks > 0 {
			n.Addrs[w.below(blocks)] = w.one(1, most, 1+w.below(most), 0)
		}
	}
	n.Addrs = n.Addrs[:w.one(blocks, blocks, w.below(blocks+1))]
	if n.Size > 0 {
		n.Size -= w.one(0, w.below(56), 55)
	}
	return n
}

// list: a right one, of few nodes mostly.
func (w *walk) list(g api.Geometry) []api.Inode {
	most := greatest(g)
	list := []api.Inode{w.node(1, most)}
	list[0].Kind = 2
	step := w.one(2, 9, 30, 60)
	for ino := 2 + w.below(step); ino < 57; ino += 1 + w.below(step) {
		list = append(list, w.node(ino, most))
	}
	return list
}

// turn makes something of a list another thing; mostly it isn't right then.
func (w *walk) turn(g api.Geometry, list []api.Inode) []api.Inode {
	n := &list[w.below(len(list))]
	switch w.below(9) {
	case 0:
		n.Ino = w.one(w.below(60)-1, 0, 57, -n.Ino)
	case 1:
		n.Kind = w.below(5) - 1
	case 2:
		n.Links = w.one(0, 65535, 65536, -1)
	case 3:
		n.Size = w.one(n.Size-56, n.Size+56, 46369, -1, n.Size/2)
	case 4:
		n.Addrs = append(n.Addrs, w.one(0, 5))
	case 5, 6:
		if len(n.Addrs) > 0 {
			n.Addrs[w.below(len(n.Addrs))] = w.one(-1, greatest(g)+1, greatest(g), w.below(4000))
		}
	case 7:
		list = append(list, *n)
	default:
		i := w.below(len(list))
		list = slices.Delete(list, i, i+1)
	}
	return list
}

// Long walks of lists against the plainest means: right ones are built and loaded again.
func TestWalksOfLists(t *testing.T) {
	w := &walk{state: 5, seen: make(map[string]int)}
	for range 1000 {
		g := w.geometry()
		list := w.list(g)
		for range w.one(0, 0, 1, 2) {
			if len(list) > 0 {
				list = w.turn(g, list)
			}
		}
		holds(t, g, list)
		n := plainCount(g, list)
		w.saw("list", n > 0)
		w.saw("room", n > 0 && n <= greatest(g))
		if n > 0 && n <= greatest(g) {
			built(t, g, list).loadsAgain()
		}
	}
	w.all(t, 250, "list", "no list", "room")
}

// spoil turns something of an image.
func (w *walk) spoil(x *image, order []int) {
	address := order[w.below(len(order))]
	b := append(slices.Clone(x.bytes[address]), make([]byte, 56)...)[:56]
	most := greatest(x.g)
	switch w.below(8) {
	case 0:
		x.wrong[address] = api.Errno(w.below(200))
	case 1:
		b = b[:w.below(57)]
	case 2, 3:
		b[w.below(56)] = byte(w.below(256))
	case 4:
		copy(b[w.below(28)*2:], low(w.one(order[w.below(len(order))], 1+w.below(most), most+1, 0), 2))
	case 5:
		copy(b[ownAt+2*w.below(18):], low(w.one(order[w.below(len(order))], 1+w.below(most), most+1, 0), 2))
	case 6:
		b = slices.Clone(x.bytes[order[w.below(len(order))]])
	default:
		copy(b[3:], low(56*w.below(829)+w.below(2), 3))
	}
	x.bytes[address] = b
}

// Long walks of images, some of whose bytes are turned, or can't be read, against the plainest way.
func TestWalksOfImages(t *testing.T) {
	w := &walk{state: 11, seen: make(map[string]int)}
	for range 700 {
		g := w.geometry()
		list := w.list(g)
		n := plainCount(g, list)
		if n > greatest(g) {
			continue
		}
		x := built(t, g, list)
		order := x.order()
		for range 8 {
			w.spoil(x, order[:w.one(len(order), min(3, len(order)), min(12, len(order)))])
			err := x.loads()
			w.saw("OK", err == api.OK)
			w.saw("corrupt", err == api.ErrCorrupt)
			if err != api.OK && w.below(4) > 0 {
				x = built(t, g, list)
			}
		}
	}
	w.all(t, 500, "OK", "no OK", "corrupt", "no corrupt")
}
