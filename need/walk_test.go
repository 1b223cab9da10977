package need

import (
	"slices"
	"testing"

	"moraine/api"
	"moraine/tree"
)

// walk chooses by a fixed rule.
type walk struct {
	state uint64
	seen  map[string]int
}

// below: a number below n.
func (w *walk) below(n int) int {
	w.state = w.state*6364136223846793005 + 1442695040888963407
	return int(w.state>>33) % n
}

// saw counts what was seen of a kind.
func (w *walk) saw(kind string, is bool) {
	if !is {
		kind = "no " + kind
	}
	w.seen[kind]++
}

// bytes: mostly few, in pieces of noughts and of others.
func (w *walk) bytes() []byte {
	var b []byte
	for range w.below(6) {
		n := w.below([]int{5, 60, 120, 1200}[w.below(4)])
		if w.below(2) == 0 {
			b = append(b, noughts(n)...)
		} else {
			b = append(b, filled(n)...)
		}
	}
	return b
}

// numbers: some of blocks, some of them strange.
func (w *walk) numbers() []int {
	var out []int
	below := []int{20, 60, 200, 850}[w.below(4)]
	for range w.below(40) {
		k := w.below(below)
		if w.below(20) == 0 {
			k = noBlocks()[w.below(len(noBlocks()))]
		}
		out = append(out, k)
	}
	return out
}

// entries: mostly some that can be encoded.
func (w *walk) entries() []api.Entry {
	list := entries(w.below(70), 1+w.below(12))
	for i := range list {
		list[i].Ino = w.below(56)
	}
	if len(list) == 0 || w.below(3) > 0 {
		return list
	}
	at := w.below(len(list))
	switch w.below(3) {
	case 0:
		list[at].Ino = noPlaces()[w.below(len(noPlaces()))]
	case 1:
		list[at].Name = noNames()[w.below(len(noNames()))]
	case 2:
		list[at].Name = list[w.below(len(list))].Name
	}
	return list
}

// node: one of any kind, with bytes and entries, whichever of them it says.
func (w *walk) node() api.Node {
	n := api.Node{Kind: []int{api.KFile, api.KDir, kinds()[w.below(len(kinds()))]}[w.below(3)], Links: w.below(4), Data: w.bytes()}
	if w.below(2) == 0 {
		n.Entries = w.entries()
	}
	return n
}

// Lists of bytes, blocks and nodes, one behind the other: each call answers what the plainest way does, and twice the same.
func TestWalks(t *testing.T) {
	w := &walk{state: 13, seen: make(map[string]int)}
	for range 12000 {
		switch w.below(4) {
		case 0:
			b := w.bytes()
			want := plainThere(b)
			isThere(t, b, want...)
			isThere(t, b, want...)
			w.saw("there", len(want) > 0)
			w.saw("hole", len(want) > 0 && want[len(want)-1] >= len(want))
		case 1:
			list := w.numbers()
			want := plainPointing(list)
			points(t, want, list...)
			points(t, want, list...)
			w.saw("pointing", want > 0)
			w.saw("many", want > 3)
		case 2:
			n := w.node()
			want := plainSays(n)
			says(t, n, want)
			says(t, n, want)
			w.saw("entries said", n.Kind == api.KDir && len(want) > 0)
			w.saw("entries not said", n.Kind == api.KDir && len(n.Entries) > 0 && len(want) == 0)
		case 3:
			var x api.Tree
			for range w.below(9) {
				x.Nodes = append(x.Nodes, w.node())
			}
			needsPlainly(t, x)
			needsPlainly(t, x)
			fits(t, plainFits(small(), x), small(), x)
		}
	}
	for _, kind := range []string{"there", "no there", "hole", "no hole", "pointing", "no pointing", "many", "no many", "entries said", "no entries said", "entries not said", "no entries not said"} {
		if w.seen[kind] < 100 {
			t.Errorf("%s: %d times", kind, w.seen[kind])
		}
	}
}

// op: an operation on one of few paths.
func (w *walk) op() api.Op {
	paths := []string{"/a", "/b", "/c", "/d", "/a/a", "/a/b", "/b/a", "/longer.name", "/a/longername"}
	o := api.Op{Kind: 1 + w.below(9), Path: paths[w.below(len(paths))], To: paths[w.below(len(paths))], At: w.below([]int{100, 3000, 46000}[w.below(3)]), Data: w.bytes()}
	o.N = o.At
	return o
}

// Trees that operations make: all of them are right, and whether they fit goes by their blocks alone.
func TestWalksOfOperations(t *testing.T) {
	w := &walk{state: 31, seen: make(map[string]int)}
	geometries := []api.Geometry{small(), {Disks: 3, Rows: 1, Segs: 56}, {Disks: 6, Rows: 1, Segs: 12}, {Disks: 4, Rows: 2, Segs: 16}, {Disks: 4, Rows: 3, Segs: 30}}
	for range 30 {
		x := tree.New()
		for range 60 {
			x, _ = tree.Do(x, w.op())
			needsPlainly(t, x)
			for _, g := range geometries {
				want := plainFits(g, x)
				fits(t, want, g, x)
				w.saw("fits", want)
			}
		}
	}
	for _, kind := range []string{"fits", "no fits"} {
		if w.seen[kind] < 500 {
			t.Errorf("%s: %d times", kind, w.seen[kind])
		}
	}
}

// A row of calls by hand: none hangs on those ahead of it.
func TestCallsOneBehindTheOther(t *testing.T) {
	for range 3 {
		isThere(t, append(noughts(99), 1), 1)
		isThere(t, nil)
		points(t, 30, from(0, 828)...)
		points(t, 0)
		points(t, 3, 16, 44)
		says(t, dir(2, to("a", 1)), []byte{2, 0, 1, 'a'})
		says(t, dir(2, to("a", 56)), nil)
		says(t, dir(2), nil)
		needs(t, holding(filled(46368)), 829, 35)
		needs(t, tree.New(), 0, 4)
		fits(t, false, small(), holding(filled(46368)))
		fits(t, true, small(), tree.New())
		fits(t, false, api.Geometry{}, tree.New())
		needs(t, api.Tree{}, 0, 3)
	}
}

// Many answers at the same time: what each call keeps to itself isn't another one's.
func TestAtTheSameTime(t *testing.T) {
	x := holding(with(16, 44, 72, 827), filled(500), nil)
	done := make(chan [3]int)
	for range 8 {
		go func() {
			var got [3]int
			for range 50 {
				got = [3]int{Data(x), More(x), Pointing(There(Says(x.Nodes[1])))}
			}
			done <- got
		}()
	}
	var all [][3]int
	for range 8 {
		all = append(all, <-done)
	}
	if !slices.Equal(all, slices.Repeat([][3]int{{14, 12, 5}}, 8)) {
		t.Error(all)
	}
}
