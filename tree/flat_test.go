package tree

import (
	"slices"
	"strings"

	"moraine/api"
)

// flat is a file system by the plainest means: what each path there is leads to, at whatever depth, and no tree at all.
type flat struct {
	at    map[string]int
	kinds map[int]int
	data  map[int][]byte
	made  int
}

// plainName: is it a name, by the plainest means?
func plainName(s string) bool {
	return len(s) >= 1 && len(s) <= 12 && s != "." && s != ".." && !strings.ContainsAny(s, "/\x00")
}

// plainPath: is it a path, by the plainest means?
func plainPath(s string) bool {
	if s == "/" {
		return true
	}
	parts := strings.Split(s, "/")
	if len(parts) < 2 || len(parts) > 9 || parts[0] != "" {
		return false
	}
	for _, part := range parts[1:] {
		if !plainName(part) {
			return false
		}
	}
	return true
}

// up: the path of the directory that a path is in.
func up(path string) string {
	return path[:max(strings.LastIndex(path, "/"), 1)]
}

// below: what the paths of all in a directory begin with.
func below(path string) string {
	if path == "/" {
		return path
	}
	return path + "/"
}

// newFlat: a root alone.
func newFlat() *flat {
	return &flat{at: map[string]int{"/": 0}, kinds: map[int]int{0: api.KDir}, data: make(map[int][]byte), made: 1}
}

// make makes what is new at a path.
func (f *flat) make(path string, kind int, data []byte) {
	f.at[path], f.kinds[f.made], f.data[f.made] = f.made, kind, data
	f.made++
}

// isDir: does a path that is there lead to a directory?
func (f *flat) isDir(path string) bool {
	return f.kinds[f.at[path]] == api.KDir
}

// in: the paths of what is in a directory, by rising names.
func (f *flat) in(dir string) []string {
	var out []string
	for path := range f.at {
		if path != "/" && up(path) == dir {
			out = append(out, path)
		}
	}
	slices.Sort(out)
	return out
}

// links: how many links what a path leads to has.
func (f *flat) links(path string) int {
	links := 0
	if !f.isDir(path) {
		for _, id := range f.at {
			if id == f.at[path] {
				links++
			}
		}
		return links
	}
	for _, sub := range f.in(path) {
		if f.isDir(sub) {
			links++
		}
	}
	return links + 2
}

// nodes: how many nodes there are.
func (f *flat) nodes() int {
	ids := make(map[int]int)
	for _, id := range f.at {
		ids[id]++
	}
	return len(ids)
}

// tree: the tree of it.
func (f *flat) tree() api.Tree {
	var t api.Tree
	f.grow(&t, "/", make(map[int]int))
	return t
}

// grow puts what a path leads to behind a tree's nodes, unless it is there, and tells its place.
func (f *flat) grow(t *api.Tree, path string, places map[int]int) int {
	id := f.at[path]
	if place, has := places[id]; has {
		return place
	}
	place := len(t.Nodes)
	places[id] = place
	t.Nodes = append(t.Nodes, api.Node{Kind: f.kinds[id], Links: f.links(path), Data: slices.Clone(f.data[id])})
	if !f.isDir(path) {
		return place
	}
	var entries []api.Entry
	for _, sub := range f.in(path) {
		entries = append(entries, api.Entry{Name: sub[len(below(path)):], Ino: f.grow(t, sub, places)})
	}
	t.Nodes[place].Entries = entries
	return place
}

// flatOf: a right tree, by its paths.
func flatOf(t api.Tree) *flat {
	f := &flat{at: make(map[string]int), kinds: make(map[int]int), data: make(map[int][]byte), made: len(t.Nodes)}
	f.spread(t, "/", 0)
	return f
}

// spread tells the paths of what is at a place, and in it.
func (f *flat) spread(t api.Tree, path string, place int) {
	n := t.Nodes[place]
	f.at[path], f.kinds[place], f.data[place] = place, n.Kind, slices.Clone(n.Data)
	for _, e := range n.Entries {
		f.spread(t, below(path)+e.Name, e.Ino)
	}
}

// wrong: what is wrong with a path; OK, if something is there.
func (f *flat) wrong(path string) api.Errno {
	if !plainPath(path) {
		return api.ErrName
	}
	for end := 2; end <= len(path); end++ {
		if end < len(path) && path[end] != '/' {
			continue
		}
		if !f.isDir(up(path[:end])) {
			return api.ErrNotDir
		}
		if _, has := f.at[path[:end]]; !has {
			return api.ErrNone
		}
	}
	return api.OK
}

// has: is something at a path?
func (f *flat) has(path string) bool {
	_, has := f.at[path]
	return has
}

// wrongToBe: what is wrong with the place to be of a path other than "/".
func (f *flat) wrongToBe(path string) api.Errno {
	if !plainPath(path) {
		return api.ErrName
	}
	if wrong := f.wrong(up(path)); wrong != api.OK {
		return wrong
	}
	if !f.isDir(up(path)) {
		return api.ErrNotDir
	}
	return api.OK
}

// full: has the directory that a path is to be in no room for one more?
func (f *flat) full(path string) bool {
	return len(f.in(up(path))) >= 64
}

// rule is what an operation asks for: what is wrong, if it is so.
type rule struct {
	is    func() bool
	wrong api.Errno
}

// first: the first of some rules that is broken, in order, each asked only where those ahead of it hold.
func first(rules ...rule) api.Errno {
	for _, r := range rules {
		if r.is() {
			return r.wrong
		}
	}
	return api.OK
}

// wrongs: rules of what a function says is wrong, one for each number that it may say.
func wrongs(what func(path string) api.Errno, path string) []rule {
	var out []rule
	for _, wrong := range []api.Errno{api.ErrName, api.ErrNotDir, api.ErrNone} {
		out = append(out, rule{func() bool { return what(path) == wrong }, wrong})
	}
	return out
}

// rules: what an operation asks for, in the chapter's order.
func (f *flat) rules(o api.Op) []rule {
	noPath := rule{func() bool { return !plainPath(o.Path) || !plainPath(o.To) }, api.ErrName}
	here, there := wrongs(f.wrong, o.Path), wrongs(f.wrongToBe, o.To)
	isDir := rule{func() bool { return f.isDir(o.Path) }, api.ErrIsDir}
	isFile := rule{func() bool { return !f.isDir(o.Path) }, api.ErrNotDir}
	switch o.Kind {
	case api.OpCreate, api.OpMkdir:
		return slices.Concat([]rule{{func() bool { return o.Path == "/" }, api.ErrExists}}, wrongs(f.wrongToBe, o.Path), []rule{
			{func() bool { return f.has(o.Path) }, api.ErrExists},
			{func() bool { return f.full(o.Path) || f.nodes() >= 56 }, api.ErrMany},
		})
	case api.OpLink:
		return slices.Concat([]rule{noPath}, here, []rule{isDir, {func() bool { return o.To == "/" }, api.ErrExists}}, there, []rule{
			{func() bool { return f.has(o.To) }, api.ErrExists},
			{func() bool { return f.links(o.Path) >= 200 }, api.ErrLinks},
			{func() bool { return f.full(o.To) }, api.ErrMany},
		})
	case api.OpUnlink:
		return append(here, isDir)
	case api.OpRmdir:
		return append(here, isFile, rule{func() bool { return o.Path == "/" || len(f.in(o.Path)) > 0 }, api.ErrFilled})
	case api.OpRename:
		return slices.Concat([]rule{noPath, {func() bool { return o.Path == "/" || o.To == "/" }, api.ErrLoop}}, here, []rule{
			{func() bool { return f.isDir(o.Path) && strings.HasPrefix(o.To, o.Path+"/") }, api.ErrLoop},
		}, there, f.rulesOfTo(o))
	case api.OpRead:
		return append(here, isDir, rule{func() bool { return o.At < 0 || o.N < 0 }, api.ErrRange})
	case api.OpWrite:
		return append(here, isDir, rule{func() bool { return o.At < 0 || o.At > 46368 || o.At+len(o.Data) > 46368 }, api.ErrRange})
	case api.OpTrunc:
		return append(here, isDir, rule{func() bool { return o.N < 0 || o.N > 46368 }, api.ErrRange})
	case api.OpStat, api.OpFsync:
		return here
	case api.OpList:
		return append(here, isFile)
	case api.OpSync:
		return nil
	}
	return []rule{{func() bool { return true }, api.ErrOp}}
}

// rulesOfTo: what a renaming asks for of what is at the path to which it goes.
func (f *flat) rulesOfTo(o api.Op) []rule {
	other := func() bool { return f.has(o.To) && f.at[o.To] != f.at[o.Path] }
	return []rule{
		{func() bool { return other() && f.isDir(o.Path) && !f.isDir(o.To) }, api.ErrNotDir},
		{func() bool { return other() && !f.isDir(o.Path) && f.isDir(o.To) }, api.ErrIsDir},
		{func() bool { return other() && len(f.in(o.To)) > 0 }, api.ErrFilled},
		{func() bool { return !f.has(o.To) && up(o.To) != up(o.Path) && f.full(o.To) }, api.ErrMany},
	}
}

// do: what an operation that breaks no rule answers; and it is done.
func (f *flat) do(o api.Op) api.Result {
	id := f.at[o.Path]
	data := f.data[id]
	switch o.Kind {
	case api.OpCreate:
		f.make(o.Path, api.KFile, nil)
	case api.OpMkdir:
		f.make(o.Path, api.KDir, nil)
	case api.OpLink:
		f.at[o.To] = id
	case api.OpUnlink, api.OpRmdir:
		delete(f.at, o.Path)
	case api.OpRename:
		f.move(o.Path, o.To)
	case api.OpRead:
		var out []byte
		for at := o.At; at < len(data) && len(out) < o.N; at++ {
			out = append(out, data[at])
		}
		return api.Result{Data: out}
	case api.OpWrite:
		for i, b := range o.Data {
			for len(data) <= o.At+i {
				data = append(data, 0)
			}
			data[o.At+i] = b
		}
		f.data[id] = data
		return api.Result{Size: len(o.Data)}
	case api.OpTrunc:
		f.data[id] = append(slices.Clone(data), make([]byte, 46368)...)[:o.N]
		clear(f.data[id][min(len(data), o.N):])
	case api.OpStat:
		return api.Result{Kind: f.kinds[id], Links: f.links(o.Path), Size: len(data) + len(f.in(o.Path))}
	case api.OpList:
		var names []string
		for _, path := range f.in(o.Path) {
			names = append(names, path[len(below(o.Path)):])
		}
		return api.Result{Names: names}
	}
	return api.Result{}
}

// move: all paths that begin with one begin with another one, unless both lead to the same.
func (f *flat) move(from, to string) {
	if f.has(to) && f.at[to] == f.at[from] {
		return
	}
	for path, id := range cloned(f.at) {
		if path == from || strings.HasPrefix(path, from+"/") {
			delete(f.at, path)
			f.at[to+path[len(from):]] = id
		}
	}
}

// cloned: the same paths.
func cloned(at map[string]int) map[string]int {
	out := make(map[string]int)
	for path, id := range at {
		out[path] = id
	}
	return out
}

// plainDo: what Do answers of a right tree, by the plainest means.
func plainDo(t api.Tree, o api.Op) (api.Tree, api.Result) {
	f := flatOf(t)
	if wrong := first(f.rules(o)...); wrong != api.OK {
		return t, api.Result{Err: wrong}
	}
	answer := f.do(o)
	return f.tree(), answer
}

// plainFind: what Find answers of a right tree, by the plainest means.
func plainFind(t api.Tree, path string) (int, api.Errno) {
	f := flatOf(t)
	if wrong := f.wrong(path); wrong != api.OK {
		return 0, wrong
	}
	return f.at[path], api.OK
}

// plainRight: is a tree right, by the plainest means: one rule behind the other?
func plainRight(t api.Tree) bool {
	if len(t.Nodes) == 0 || len(t.Nodes) > 56 || t.Nodes[0].Kind != api.KDir {
		return false
	}
	entries, dirs := make([]int, len(t.Nodes)), make([]int, len(t.Nodes))
	for place, n := range t.Nodes {
		if n.Kind != api.KFile && n.Kind != api.KDir || len(n.Data) > 46368 || len(n.Entries) > 64 ||
			n.Kind == api.KFile && len(n.Entries) > 0 || n.Kind == api.KDir && len(n.Data) > 0 {
			return false
		}
		for i, e := range n.Entries {
			if !plainName(e.Name) || i > 0 && e.Name <= n.Entries[i-1].Name || e.Ino <= 0 || e.Ino >= len(t.Nodes) {
				return false
			}
			entries[e.Ino]++
			if t.Nodes[e.Ino].Kind == api.KDir {
				dirs[place]++
			}
		}
	}
	for place, n := range t.Nodes {
		if n.Kind == api.KFile && (n.Links != entries[place] || n.Links > 200) ||
			n.Kind == api.KDir && (n.Links != 2+dirs[place] || place > 0 && entries[place] != 1) {
			return false
		}
	}
	return slices.Equal(plainOrder(t), upTo(len(t.Nodes)))
}

// plainOrder: the places in the order in which the nodes are met, by a heap of those that are left.
func plainOrder(t api.Tree) []int {
	var order []int
	left := []int{0}
	for len(left) > 0 {
		place := left[len(left)-1]
		left = left[:len(left)-1]
		if slices.Contains(order, place) {
			continue
		}
		order = append(order, place)
		for _, e := range slices.Backward(t.Nodes[place].Entries) {
			left = append(left, e.Ino)
		}
	}
	return order
}

// upTo: the numbers below n.
func upTo(n int) []int {
	var out []int
	for i := range n {
		out = append(out, i)
	}
	return out
}
