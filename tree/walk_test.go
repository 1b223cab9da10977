package tree

import (
	"slices"
	"strings"
	"testing"

	"moraine/api"
)

// walk chooses operations by a fixed rule.
type walk struct {
	state uint64
	tree  api.Tree
	// paths are those of all that is there, rising.
	paths []string
	// names are those that new entries get.
	names []string
	seen  map[string]int
}

// below: a number below n.
func (w *walk) below(n int) int {
	w.state = w.state*6364136223846793005 + 1442695040888963407
	return int(w.state>>33) % n
}

// look goes over what is there anew.
func (w *walk) look() {
	w.paths = w.paths[:0]
	for path := range flatOf(w.tree).at {
		w.paths = append(w.paths, path)
	}
	slices.Sort(w.paths)
}

// old: a path of what is there, sometimes one at which nothing can be.
func (w *walk) old() string {
	if w.below(40) == 0 {
		return noTexts()[w.below(len(noTexts()))]
	}
	return w.paths[w.below(len(w.paths))]
}

// fresh: a path in what is there, mostly a directory.
func (w *walk) fresh() string {
	at := w.old()
	for range 4 {
		if place, wrong := plainFind(w.tree, at); wrong == api.OK && w.tree.Nodes[place].Kind == api.KDir {
			break
		}
		at = w.old()
	}
	return strings.TrimSuffix(at, "/") + "/" + w.names[w.below(len(w.names))]
}

// any: a path of either kind.
func (w *walk) any() string {
	if w.below(2) == 0 {
		return w.old()
	}
	return w.fresh()
}

// number: mostly a small one, sometimes one at the bounds of a file's length.
func (w *walk) number() int {
	if w.below(8) == 0 {
		return []int{-1, 0, 46366, 46367, 46368, 46369, 1<<63 - 1, -1 << 63}[w.below(8)]
	}
	return w.below(40)
}

// data: a few bytes, noughts among them.
func (w *walk) data() []byte {
	var out []byte
	for range w.below(20) {
		out = append(out, byte(w.below(4)))
	}
	return out
}

// next: an operation; one that makes something as often as told.
func (w *walk) next(ready int) api.Op {
	kind := []int{api.OpUnlink, api.OpRmdir, api.OpRename, api.OpRename, api.OpRead, api.OpWrite, api.OpTrunc, api.OpStat, api.OpList, api.OpFsync, api.OpSync, 0}[w.below(12)]
	if w.below(10) < ready {
		kind = []int{api.OpCreate, api.OpMkdir, api.OpLink, api.OpLink}[w.below(4)]
	}
	o := api.Op{Kind: kind, Path: w.old(), To: w.any(), At: w.number(), N: w.number(), Data: w.data()}
	if kind == api.OpCreate || kind == api.OpMkdir {
		o.Path = w.any()
	}
	return o
}

// step does an operation, and holds it against the plainest way.
func (w *walk) step(t *testing.T, o api.Op) {
	tree, answer := doesPlainly(t, w.tree, o)
	if answer.Err == api.OK {
		w.seen["done"]++
	} else {
		w.seen["refused"]++
	}
	if len(tree.Nodes) == api.MaxNodes {
		w.seen["of MaxNodes nodes"]++
	}
	for _, n := range tree.Nodes {
		if len(n.Entries) == api.MaxEntries {
			w.seen["of MaxEntries entries"]++
		}
		if n.Kind == api.KFile && n.Links > 100 {
			w.seen["of many links"]++
		}
	}
	if !same(tree, w.tree) {
		w.tree = tree
		w.look()
	}
}

// Rows of operations one behind the other: each is done as the plainest way does it.
func TestWalks(t *testing.T) {
	seen := make(map[string]int)
	for round := range 24 {
		w := &walk{state: uint64(round), tree: New(), seen: seen, names: strings.Split("a b c d e f ab abcdefghijkl \xff é", " ")}
		if round%3 == 0 {
			w.names = numberedTexts("n", 80)
		}
		if round%6 == 5 {
			w.tree = crowded()
		}
		w.look()
		for range 400 {
			w.step(t, w.next(3+round%7))
			if t.Failed() {
				t.Fatalf("round %d", round)
			}
		}
	}
	for _, kind := range []string{"done", "refused", "of MaxNodes nodes", "of MaxEntries entries", "of many links"} {
		if seen[kind] < 100 {
			t.Errorf("%s: %d times", kind, seen[kind])
		}
	}
}

// A row of operations by hand, from nothing to nothing.
func TestFromNothingToNothing(t *testing.T) {
	tree := row(t, New(),
		op(api.OpMkdir, "/home"), op(api.OpMkdir, "/home/me"), op(api.OpCreate, "/home/me/notes"), writing("/home/me/notes", 0, "first"), op(api.OpLink, "/home/me/notes", "/notes"),
		op(api.OpSync, ""), writing("/notes", 5, ", second"), reading("/home/me/notes", 0, 99), truncing("/notes", 5), writing("/notes", 7, "x"), op(api.OpFsync, "/notes"),
		op(api.OpRename, "/home/me", "/me"), op(api.OpRename, "/home", "/me/home"), op(api.OpUnlink, "/me/notes"), op(api.OpList, "/me"), op(api.OpStat, "/notes"))
	tells(t, tree, reading("/notes", 0, 99), api.Result{Data: []byte("first\x00\x00x")})
	tree = row(t, tree, op(api.OpRmdir, "/me/home"), op(api.OpRmdir, "/me"), op(api.OpUnlink, "/notes"))
	if !same(tree, New()) {
		t.Error(short(tree))
	}
}

// Each two operations of some, in either order and each twice, in a tree of few nodes.
func TestEachTwoOperations(t *testing.T) {
	ops := []api.Op{
		op(api.OpCreate, "/a"), op(api.OpCreate, "/b"), op(api.OpMkdir, "/a"), op(api.OpMkdir, "/d/a"), op(api.OpMkdir, "/b"), op(api.OpLink, "/a", "/b"), op(api.OpLink, "/a", "/d/b"), op(api.OpLink, "/d/b", "/c"),
		op(api.OpUnlink, "/a"), op(api.OpUnlink, "/b"), op(api.OpUnlink, "/d/b"), op(api.OpRmdir, "/d"), op(api.OpRmdir, "/d/a"), op(api.OpRmdir, "/b"),
		op(api.OpRename, "/a", "/b"), op(api.OpRename, "/b", "/a"), op(api.OpRename, "/d", "/b"), op(api.OpRename, "/a", "/d/a"), op(api.OpRename, "/d/b", "/a"), op(api.OpRename, "/d/a", "/d/c"), op(api.OpRename, "/b", "/d/a"),
		reading("/a", 1, 3), writing("/a", 0, "xy"), writing("/b", 3, "z"), writing("/d/b", 0, "12345"), truncing("/a", 1), truncing("/d/b", 3), op(api.OpStat, "/a"), op(api.OpStat, "/"), op(api.OpList, "/"), op(api.OpList, "/d"), op(api.OpSync, ""), op(api.OpFsync, "/b"),
	}
	for _, start := range []api.Tree{New(), of("/a:hello", "/d/"), of("/a:hello", "/d/", "/d/b=/a"), of("/d/", "/d/a/", "/d/b:x", "/b:y")} {
		for _, first := range ops {
			tree, _ := doesPlainly(t, start, first)
			for _, second := range ops {
				next, _ := doesPlainly(t, tree, second)
				doesPlainly(t, next, first)
				doesPlainly(t, next, second)
			}
		}
	}
}

// Calls don't hang on those ahead of them.
func TestCallsOneBehindTheOther(t *testing.T) {
	for range 3 {
		rights(t, false, api.Tree{})
		rights(t, true, sample())
		finds(t, sample(), "/d/e", 3, api.OK)
		finds(t, api.Tree{}, "/d/e", 0, api.ErrCorrupt)
		finds(t, sample(), "/d/none", 0, api.ErrNone)
		isCorrupt(t, api.Tree{}, op(api.OpStat, "/"))
		refuses(t, sample(), api.ErrFilled, op(api.OpRmdir, "/d"))
		makes(t, of("/a/"), op(api.OpRmdir, "/a"), New())
		tells(t, sample(), reading("/a", 1, 3), api.Result{Data: []byte("ell")})
		finds(t, sample(), "/d/e", 3, api.OK)
	}
}
