package store

import (
	"bytes"
	"slices"
	"testing"

	"moraine/api"
	"moraine/device"
	"moraine/tree"
)

// small is the geometry of most tests: 4 slots, 2 rows of 3 blocks, 16 segments of 5 places; up to 2 of them are for data, up to 3 for all else; the spare is disk 4.
func small() api.Geometry {
	return api.Geometry{Disks: 4, Rows: 2, Segs: 16}
}

// geometries are the small one, and some at the bounds: the third one has the fewest places, the last one the most.
func geometries() []api.Geometry {
	return []api.Geometry{
		small(), {Disks: 3, Rows: 3, Segs: 12}, {Disks: 3, Rows: 1, Segs: 56}, {Disks: 5, Rows: 3, Segs: 24}, {Disks: 16, Rows: 1, Segs: 12}, {Disks: 16, Rows: 4, Segs: 64},
	}
}

// newRack: one that goes with a geometry, all of whose disks are noughts.
func newRack(t *testing.T, g api.Geometry) *device.Rack {
	t.Helper()
	r, err := device.New(g.Disks+1, 5+g.Rows*g.Segs)
	is(t, "New", err, api.OK)
	return r
}

// formatted: a store of a root alone, and its rack.
func formatted(t *testing.T, g api.Geometry) (*Store, *device.Rack) {
	t.Helper()
	r := newRack(t, g)
	return formats(t, r, g), r
}

// formats: the store of a rack that must be formatted.
func formats(t *testing.T, r *device.Rack, g api.Geometry) *Store {
	t.Helper()
	s, err := Format(r, g)
	if err != api.OK || s == nil {
		t.Fatalf("Format of %v: %v", g, err)
	}
	return s
}

// mounts: the store of a rack that must be mounted.
func mounts(t *testing.T, r *device.Rack) *Store {
	t.Helper()
	s, err := Mount(r)
	if err != api.OK || s == nil {
		t.Fatalf("Mount: %v", err)
	}
	return s
}

// refuses: a rack isn't mounted, with this error.
func refuses(t *testing.T, what string, r *device.Rack, want api.Errno) {
	t.Helper()
	if s, err := Mount(r); err != want || s != nil {
		t.Errorf("Mount, %s: %v, not %v", what, err, want)
	}
}

// stored: a store of a geometry in which a tree was laid, and its rack.
func stored(t *testing.T, g api.Geometry, x api.Tree) (*Store, *device.Rack) {
	t.Helper()
	s, r := formatted(t, g)
	lays(t, s, x)
	return s, r
}

// lays puts a tree, and lays it.
func lays(t *testing.T, s *Store, x api.Tree) {
	t.Helper()
	is(t, "Put", s.Put(x), api.OK)
	is(t, "Lay", s.Lay(), api.OK)
	hasRoom(t, s)
}

// holds: a store has this tree.
func holds(t *testing.T, s *Store, want api.Tree) {
	t.Helper()
	if got, err := s.Tree(); err != api.OK || !sameTree(got, want) {
		t.Errorf("Tree: %v, %v, not %v", short(got), err, short(want))
	}
}

// hasRoom: there are as many free segments as laying what lasts once more needs, and one.
func hasRoom(t *testing.T, s *Store) {
	t.Helper()
	g := s.Bank().Geo()
	own := 0
	for _, seg := range s.Live() {
		if !slices.Contains(dataSegments(s), seg) {
			own++
		}
	}
	if free := g.Segs - len(s.Live()); free < own+1 {
		t.Errorf("%v: %d segments are free, %d are the store's own", g, free, own)
	}
}

// dataSegments: the segments in which data lasts.
func dataSegments(s *Store) []int {
	var segs []int
	for _, n := range s.last.list {
		for _, address := range n.Addrs {
			if address > 0 {
				segs = append(segs, (address-1)/places(s.Bank().Geo()))
			}
		}
	}
	slices.Sort(segs)
	return slices.Compact(segs)
}

// uses: a store uses these segments, each of a writing of the Seq beside it, and no others.
func uses(t *testing.T, s *Store, pairs ...[2]int) {
	t.Helper()
	var segs []int
	seqs := make(map[int]int)
	for _, p := range pairs {
		segs = append(segs, p[0])
		seqs[p[0]] = p[1]
	}
	if got := s.Live(); !slices.Equal(got, segs) {
		t.Errorf("Live: %v, not %v", got, segs)
	}
	for seg := -2; seg < 70; seg++ {
		if got := s.Seq(seg); got != seqs[seg] {
			t.Errorf("Seq of %d: %d, not %d", seg, got, seqs[seg])
		}
	}
}

// lose lets disks fail at a call that changes nothing.
func lose(t *testing.T, r *device.Rack, disks ...int) {
	t.Helper()
	for _, disk := range disks {
		is(t, "Doom", r.Doom(disk, 0), api.OK)
	}
	if len(disks) > 0 {
		is(t, "Flush", r.Flush(disks[0]), api.ErrFailed)
	}
}

// cutOff lets the power go at a call that changes nothing.
func cutOff(t *testing.T, r *device.Rack) {
	t.Helper()
	r.Arm(0)
	is(t, "Flush", r.Flush(0), api.ErrDead)
}

// again lets the power go and come back; what doesn't last is gone.
func again(t *testing.T, r *device.Rack) {
	t.Helper()
	cutOff(t, r)
	r.Restore(nil)
}

// puts writes a disk's sector, and makes it last.
func puts(t *testing.T, r *device.Rack, disk, sector int, data []byte) {
	t.Helper()
	is(t, "Write to the rack", r.Write(disk, sector, data), api.OK)
	is(t, "Flush of the rack", r.Flush(disk), api.OK)
}

// gets reads a disk's sector.
func gets(t *testing.T, r *device.Rack, disk, sector int) []byte {
	t.Helper()
	data, err := r.Read(disk, sector)
	is(t, "Read of the rack", err, api.OK)
	return data
}

// record: a record's sector, by its bytes ahead of noughts.
func record(front ...byte) []byte {
	return append(front, make([]byte, 64-len(front))...)
}

// places: how many of them a segment has.
func places(g api.Geometry) int {
	return g.Rows*(g.Disks-1) - 1
}

// alone: a root alone.
func alone() api.Tree {
	return tree.New()
}

// grown: what operations make of a root alone.
func grown(t *testing.T, ops ...api.Op) api.Tree {
	t.Helper()
	x := tree.New()
	for _, o := range ops {
		var answer api.Result
		x, answer = tree.Do(x, o)
		is(t, "an operation", answer.Err, api.OK)
	}
	return x
}

// some: a tree of directories and files, one of them with two names, one with holes and noughts at its end; it has 6 blocks of data and 10 others, and differs by the salt.
func some(t *testing.T, salt byte) api.Tree {
	t.Helper()
	return grown(t,
		api.Op{Kind: api.OpMkdir, Path: "/d"},
		api.Op{Kind: api.OpCreate, Path: "/z"},
		api.Op{Kind: api.OpCreate, Path: "/d/f"},
		api.Op{Kind: api.OpMkdir, Path: "/d/e"},
		api.Op{Kind: api.OpLink, Path: "/z", To: "/d/e/more"},
		api.Op{Kind: api.OpWrite, Path: "/z", At: 50, Data: bytes.Repeat([]byte{salt, 0, 3}, 20)},
		api.Op{Kind: api.OpTrunc, Path: "/z", N: 400},
		api.Op{Kind: api.OpWrite, Path: "/d/f", At: 56 * 17, Data: []byte{1, salt}},
		api.Op{Kind: api.OpCreate, Path: "/empty"},
	)
}

// filled: a tree of so many blocks of data, and so many others: 5 to 15.
func filled(t *testing.T, data, others int) api.Tree {
	t.Helper()
	ops := []api.Op{{Kind: api.OpCreate, Path: "/a"}}
	for i := range others - 5 {
		ops = append(ops, api.Op{Kind: api.OpCreate, Path: "/" + string(rune('b'+i))})
	}
	// The root's own block is one of them.
	ops = append(ops, api.Op{Kind: api.OpWrite, Path: "/a", Data: bytes.Repeat([]byte{byte(data), 7}, 28*(data-1))})
	return grown(t, ops...)
}

// sameTree: are two trees alike, be what is empty nil or not?
func sameTree(a, b api.Tree) bool {
	return slices.EqualFunc(a.Nodes, b.Nodes, func(x, y api.Node) bool {
		return x.Kind == y.Kind && x.Links == y.Links && bytes.Equal(x.Data, y.Data) && slices.Equal(x.Entries, y.Entries)
	})
}

// short: of each node of a tree the kind, the links, how many bytes of data there are, and the entries.
func short(x api.Tree) []any {
	var out []any
	for _, n := range x.Nodes {
		out = append(out, []any{n.Kind, n.Links, len(n.Data), n.Entries})
	}
	return out
}

// none: is it a tree without nodes?
func none(x api.Tree) bool {
	return len(x.Nodes) == 0
}

// is holds an error against the one that is wanted.
func is(t *testing.T, what string, got, want api.Errno) {
	t.Helper()
	if got != want {
		t.Errorf("%s: %v, not %v", what, got, want)
	}
}

// The chapter's example: Format, Put of a tree, Lay, and the power goes: Mount finds that tree.
func TestExample(t *testing.T) {
	for _, g := range geometries() {
		if g.Disks == 3 && g.Rows == 1 {
			continue // It has no room for this tree.
		}
		s, r := formatted(t, g)
		x := some(t, 5)
		is(t, "Put", s.Put(x), api.OK)
		is(t, "Lay", s.Lay(), api.OK)
		again(t, r)
		holds(t, mounts(t, r), x)
	}
}
