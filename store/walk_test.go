package store

import (
	"testing"

	"moraine/api"
	"moraine/device"
	"moraine/tree"
)

// walk chooses by a fixed rule.
type walk struct {
	state uint64
	seen  map[string]int
}

// below: a number below n.
func (w *walk) below(n int) int {
	w.state = w.state*6364136223846793005 + 1442695040888963407
	return int(w.state>>33) % n
}

// one of these numbers.
func (w *walk) one(of ...int) int {
	return of[w.below(len(of))]
}

// saw counts an answer of a call.
func (w *walk) saw(call string, err api.Errno) {
	w.seen[call+" "+err.Error()]++
}

// path: one of few.
func (w *walk) path() string {
	out := ""
	for range 1 + w.below(2) {
		out += "/" + []string{"a", "b", "long name"}[w.below(3)]
	}
	return out
}

// op: some operation that changes a tree.
func (w *walk) op() api.Op {
	data := make([]byte, w.below(80))
	for i := range data {
		data[i] = byte(w.below(3))
	}
	return api.Op{Kind: w.one(api.OpCreate, api.OpMkdir, api.OpLink, api.OpUnlink, api.OpRmdir, api.OpRename, api.OpWrite, api.OpWrite, api.OpWrite, api.OpTrunc), Path: w.path(), To: w.path(), At: w.one(0, w.below(100), w.below(1000), w.below(46000)), N: w.below(1100), Data: data}
}

// tree: what some operations make of one.
func (w *walk) tree(x api.Tree) api.Tree {
	for range 1 + w.below(12) {
		x, _ = tree.Do(x, w.op())
	}
	return x
}

// fits: does a tree fit that is put, by plain means?
func (p *pair) fits(x api.Tree) bool {
	d := places(p.w.g)
	pd, qd := caps(p.w.g)
	data, more := len(dataOf(x)), len(x.Nodes)+3
	for _, n := range x.Nodes {
		some := make(map[int]int)
		for k := range cut(n) {
			if k >= 44 {
				some[1+(k-44)/28], some[0] = 1, 1
			} else if k >= 16 {
				some[-1] = 1
			}
		}
		more += len(some)
	}
	used := 0
	for range p.w.last.seqs {
		used++
	}
	used -= len(p.w.last.own)
	return data <= pd*d && more <= qd*d && used+segs(p.w.g, data)+max(len(p.w.last.own)+segs(p.w.g, more), 2*segs(p.w.g, more)+1) <= p.w.g.Segs
}

// puts puts a tree on both, be it right and not too great or not.
func (w *walk) puts(p *pair) {
	p.t.Helper()
	x := w.tree(p.w.there)
	if w.below(8) == 0 {
		x.Nodes[w.below(len(x.Nodes))].Links += w.one(1, -1)
	}
	want := api.OK
	switch {
	case !tree.Right(x):
		want = api.ErrCorrupt
	case !p.fits(x):
		want = api.ErrFull
	}
	w.saw("Put", want)
	is(p.t, "Put", p.s.Put(x), want)
	if want == api.OK {
		p.w.there, p.w.at = x, nil
	}
}

// harms lets the power go, or a disk fail, behind some calls on both.
func (w *walk) harms(p *pair, most int) {
	what, disk, calls := w.below(3), w.below(p.w.g.Disks+1), w.below(60)
	failed := 0
	for d := range p.w.g.Disks + 1 {
		if p.r.Failed(d) {
			failed++
		}
	}
	p.both(func(r *device.Rack) {
		switch {
		case what >= most:
			r.Arm(calls)
		case failed < most:
			r.Doom(disk, calls)
		}
	})
}

// restores gives both power again.
func (w *walk) restores(p *pair) {
	keeps := make([]int, 1+w.below(30))
	for i := range keeps {
		keeps[i] = w.below(2)
	}
	if w.below(3) == 0 {
		keeps = []int{w.below(2)}
	}
	p.both(func(r *device.Rack) { r.Restore(keeps) })
}

// mounts mounts both behind a cut of the power, again and again, as it may go meanwhile; it tells whether there is a store at last.
func (w *walk) mounts(p *pair) bool {
	for {
		w.restores(p)
		calls := w.one(-1, -1, w.below(60))
		p.both(func(r *device.Rack) { r.Arm(calls) })
		err := p.mount()
		w.saw("Mount", err)
		if err != api.ErrDead {
			return err == api.OK
		}
	}
}

// step does one call on both.
func (w *walk) step(p *pair, most int) {
	p.t.Helper()
	switch w.below(8) {
	case 0:
		w.harms(p, most)
	case 1, 2, 3:
		w.puts(p)
	case 4, 5:
		w.saw("Lay", p.lay())
	case 6:
		w.saw("Mark", p.mark())
	default:
		if x, err := p.s.Tree(); err == api.OK && !sameTree(x, p.w.there) {
			p.t.Fatalf("Tree: %v, not %v", short(x), short(p.w.there))
		} else {
			w.saw("Tree", err)
		}
	}
}

// Long walks of all calls, with power cuts and failing disks: each call answers, and writes, what it does in the plainest way. Now and then a store goes on behind a power cut without a mount.
func TestWalks(t *testing.T) {
	w := &walk{seen: make(map[string]int)}
	for seed := range 400 {
		w.state = uint64(seed)
		g := geometries()[seed%5]
		p := pairOf(t, g)
		for range 60 {
			w.step(p, 1+seed%2)
			if !p.r.Off() {
				continue
			}
			if w.below(5) == 0 {
				w.restores(p)
			} else if !w.mounts(p) {
				break
			}
		}
		if t.Failed() {
			t.Fatalf("walk %d", seed)
		}
	}
	for _, answer := range []string{
		"Put error ", "Put error 15", "Put error 16", "Lay error ", "Lay error 12", "Lay error 14", "Mark error ", "Mark error 12", "Mark error 14",
		"Mount error ", "Mount error 12", "Mount error 14", "Tree error ", "Tree error 14",
	} {
		if w.seen[answer] < 5 {
			t.Errorf("%q came %d times", answer, w.seen[answer])
		}
		delete(w.seen, answer)
	}
	for answer := range w.seen {
		t.Errorf("%q isn't an answer", answer)
	}
}
