package tree

import (
	"bytes"
	"strings"

	"moraine/api"
	"moraine/bits"
	"moraine/dirent"
	"moraine/path"
)

// rootPath is the path of the root, which is in no directory.
const rootPath = "/"

// do does an operation, and tells its answer; what is wrong is told by a panic.
func (w *worker) do(o api.Op) api.Result {
	switch o.Kind {
	case api.OpCreate:
		w.add(o.Path, api.KFile)
	case api.OpMkdir:
		w.add(o.Path, api.KDir)
	case api.OpLink:
		w.link(o.Path, o.To)
	case api.OpUnlink:
		w.unlink(o.Path)
	case api.OpRmdir:
		w.rmdir(o.Path)
	case api.OpRename:
		w.rename(o.Path, o.To)
	case api.OpRead:
		return api.Result{Data: w.read(o.Path, o.At, o.N)}
	case api.OpWrite:
		return api.Result{Size: w.write(o.Path, o.At, o.Data)}
	case api.OpTrunc:
		w.trunc(o.Path, o.N)
	case api.OpStat:
		return w.stat(o.Path)
	case api.OpList:
		return api.Result{Names: w.list(o.Path)}
	case api.OpSync:
	case api.OpFsync:
		w.at(o.Path)
	default:
		panic(api.ErrOp)
	}
	return api.Result{}
}

// namesOf: the names of what must be a path.
func namesOf(text string) []string {
	names, wrong := path.Split(text)
	refuse(wrong != api.OK, wrong)
	return names
}

// at: the place of what is at a path.
func (w *worker) at(text string) int {
	return w.through(namesOf(text))
}

// through: the place to which names lead from the root.
func (w *worker) through(names []string) int {
	place := root
	for _, name := range names {
		refuse(!w.isDir(place), api.ErrNotDir)
		next, has := w.entry(place, name)
		refuse(!has, api.ErrNone)
		place = next
	}
	return place
}

// toBe: the place to be of a path that isn't the root's: a directory, and a name in it.
func (w *worker) toBe(text string) (int, string) {
	names := namesOf(text)
	last := len(names) - 1
	dir := w.through(names[:last])
	refuse(!w.isDir(dir), api.ErrNotDir)
	return dir, names[last]
}

// toBeNew: the place to be of a path at which there must be nothing yet.
func (w *worker) toBeNew(text string) (int, string) {
	refuse(text == rootPath, api.ErrExists)
	dir, name := w.toBe(text)
	_, has := w.entry(dir, name)
	refuse(has, api.ErrExists)
	return dir, name
}

// fileAt: the place of what is at a path, and must be a file.
func (w *worker) fileAt(text string) int {
	place := w.at(text)
	refuse(w.isDir(place), api.ErrIsDir)
	return place
}

// dirAt: the place of what is at a path, and must be a directory.
func (w *worker) dirAt(text string) int {
	place := w.at(text)
	refuse(!w.isDir(place), api.ErrNotDir)
	return place
}

// entry: to which place a directory's entry of this name leads, and whether there is one.
func (w *worker) entry(dir int, name string) (int, bool) {
	list := w.Nodes[dir].Entries
	at, has := dirent.Find(list, name)
	if !has {
		return 0, false
	}
	return list[at].Ino, true
}

// isFull: has a directory no room for an entry more?
func (w *worker) isFull(dir int) bool {
	return len(w.Nodes[dir].Entries) >= api.MaxEntries
}

// hasEntries: has a node any entry?
func (w *worker) hasEntries(place int) bool {
	return len(w.Nodes[place].Entries) > 0
}

// put puts an entry in a directory, in the place of one of its name.
func (w *worker) put(dir int, name string, place int) {
	n := &w.Nodes[dir]
	n.Entries = dirent.Put(n.Entries, api.Entry{Name: name, Ino: place})
}

// cut takes the entry that leads to a path out of its directory. A node without an entry is met no more, and so it goes.
func (w *worker) cut(text string) {
	dir, name := w.toBe(text)
	n := &w.Nodes[dir]
	n.Entries = dirent.Cut(n.Entries, name)
}

// add adds a node without bytes and entries at a path.
func (w *worker) add(text string, kind int) {
	dir, name := w.toBeNew(text)
	refuse(w.isFull(dir) || len(w.Nodes) >= api.MaxNodes, api.ErrMany)
	w.put(dir, name, len(w.Nodes))
	w.Nodes = append(w.Nodes, api.Node{Kind: kind})
}

// link adds an entry of the file at a path.
func (w *worker) link(from, to string) {
	mustBePaths(from, to)
	place := w.fileAt(from)
	dir, name := w.toBeNew(to)
	refuse(w.Nodes[place].Links >= api.MaxLinks, api.ErrLinks)
	refuse(w.isFull(dir), api.ErrMany)
	w.put(dir, name, place)
}

// mustBePaths refuses texts that aren't paths, ahead of what else may be wrong with one of them.
func mustBePaths(texts ...string) {
	for _, text := range texts {
		namesOf(text)
	}
}

// unlink takes a file's entry away.
func (w *worker) unlink(text string) {
	w.fileAt(text)
	w.cut(text)
}

// rmdir takes a directory's entry away.
func (w *worker) rmdir(text string) {
	place := w.dirAt(text)
	refuse(text == rootPath || w.hasEntries(place), api.ErrFilled)
	w.cut(text)
}

// rename brings what is at a path to another one.
func (w *worker) rename(from, to string) {
	mustBePaths(from, to)
	refuse(from == rootPath || to == rootPath, api.ErrLoop)
	place := w.at(from)
	refuse(w.isDir(place) && from != to && path.Within(to, from), api.ErrLoop)
	dir, name := w.toBe(to)
	if old, has := w.entry(dir, name); has {
		if old == place {
			return
		}
		w.mustGiveWay(old, place)
	} else {
		above, _ := w.toBe(from)
		refuse(dir != above && w.isFull(dir), api.ErrMany)
	}
	w.cut(from)
	w.put(dir, name, place)
}

// mustGiveWay refuses, if a node can't be where another one is.
func (w *worker) mustGiveWay(old, place int) {
	refuse(w.isDir(place) && !w.isDir(old), api.ErrNotDir)
	refuse(!w.isDir(place) && w.isDir(old), api.ErrIsDir)
	refuse(w.hasEntries(old), api.ErrFilled)
}

// read: n bytes of a file from a place on, or as many as there are.
func (w *worker) read(text string, at, n int) []byte {
	data := w.Nodes[w.fileAt(text)].Data
	refuse(at < 0 || n < 0, api.ErrRange)
	begin := min(at, len(data))
	// The rest's length is held against n: the sum of both numbers could wrap round.
	return bytes.Clone(data[begin : begin+min(n, len(data)-begin)])
}

// write puts bytes in a file from a place on, and tells how many.
func (w *worker) write(text string, at int, data []byte) int {
	n := &w.Nodes[w.fileAt(text)]
	refuse(at < 0 || at > api.MaxSize-len(data), api.ErrRange)
	if len(data) == 0 {
		return 0
	}
	n.Data = padded(n.Data, max(len(n.Data), at+len(data)))
	copy(n.Data[at:], data)
	return len(data)
}

// trunc gives a file so many bytes.
func (w *worker) trunc(text string, size int) {
	n := &w.Nodes[w.fileAt(text)]
	refuse(size < 0 || size > api.MaxSize, api.ErrRange)
	n.Data = padded(n.Data[:min(size, len(n.Data))], size)
}

// padded: the same bytes, and noughts up to a size of a file that isn't less; in new memory.
func padded(data []byte, size int) []byte {
	out, _ := bits.Pad(data, size)
	return out
}

// stat: what is told of a node.
func (w *worker) stat(text string) api.Result {
	n := w.Nodes[w.at(text)]
	// One of both is empty.
	return api.Result{Kind: n.Kind, Links: n.Links, Size: len(n.Data) + len(n.Entries)}
}

// list: the names in a directory.
func (w *worker) list(text string) []string {
	var names []string
	for _, e := range w.Nodes[w.dirAt(text)].Entries {
		names = append(names, strings.Clone(e.Name))
	}
	return names
}
