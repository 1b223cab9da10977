package tree

import (
	"bytes"
	"slices"
	"strings"
	"testing"
	"unsafe"

	"moraine/api"
)

// hiddenText lies behind the length of what is handed in, in its memory.
const hiddenText = "hidden"

// handed is a tree and an operation that are handed in, with all their memory: each text lies over bytes that can be turned, each list has more behind its length.
type handed struct {
	tree     api.Tree
	op       api.Op
	memories [][]byte
}

// text: a text over bytes of this memory.
func (h *handed) text(s string) string {
	memory := h.bytes([]byte(s))
	return unsafe.String(unsafe.SliceData(memory), len(s))
}

// bytes: the same bytes, with others behind them.
func (h *handed) bytes(b []byte) []byte {
	memory := append(slices.Clone(b), hiddenText...)
	h.memories = append(h.memories, memory)
	return memory[:len(b)]
}

// hand: a tree and an operation in such memory.
func hand(tree api.Tree, o api.Op) *handed {
	h := &handed{op: o}
	list := make([]api.Node, 0, len(tree.Nodes)+3)
	for _, n := range tree.Nodes {
		n.Data = h.bytes(n.Data)
		entries := make([]api.Entry, 0, len(n.Entries)+3)
		for _, e := range n.Entries {
			entries = append(entries, to(h.text(e.Name), e.Ino))
		}
		n.Entries = append(entries, to(hiddenText, 1), to(hiddenText, 2), to(hiddenText, 3))[:len(entries)]
		list = append(list, n)
	}
	h.tree.Nodes = append(list, dir(7), file(8, hiddenText), dir(9))[:len(list)]
	h.op.Path, h.op.To, h.op.Data = h.text(o.Path), h.text(o.To), h.bytes(o.Data)
	return h
}

// isAsItWas: is all as it was handed in, behind the lengths, too?
func (h *handed) isAsItWas(tree api.Tree, o api.Op) bool {
	if !same(h.tree, tree) || h.op.Path != o.Path || h.op.To != o.To || !bytes.Equal(h.op.Data, o.Data) {
		return false
	}
	for _, memory := range h.memories {
		if !bytes.HasSuffix(memory, []byte(hiddenText)) {
			return false
		}
	}
	for _, n := range h.tree.Nodes {
		if !slices.Equal(n.Entries[len(n.Entries):len(n.Entries)+3], []api.Entry{to(hiddenText, 1), to(hiddenText, 2), to(hiddenText, 3)}) {
			return false
		}
	}
	end := len(h.tree.Nodes)
	return same(api.Tree{Nodes: h.tree.Nodes[end : end+3]}, nodes(dir(7), file(8, hiddenText), dir(9)))
}

// spoil turns all that was handed in.
func (h *handed) spoil() {
	for _, memory := range h.memories {
		for i := range memory {
			memory[i] ^= 0x55
		}
	}
	spoilTree(h.tree)
}

// spoilTree fills all memory of a tree's lists, the room behind their ends, too.
func spoilTree(tree api.Tree) {
	for _, n := range tree.Nodes {
		data, list := n.Data[:cap(n.Data)], n.Entries[:cap(n.Entries)]
		for i := range data {
			data[i] = 0x77
		}
		for i := range list {
			list[i] = to("spoilt", -9)
		}
	}
	list := tree.Nodes[:cap(tree.Nodes)]
	for i := range list {
		list[i] = file(-9, "spoilt")
	}
}

// spoilAnswer fills all memory of an answer's lists.
func spoilAnswer(r api.Result) {
	data, names := r.Data[:cap(r.Data)], r.Names[:cap(r.Names)]
	for i := range data {
		data[i] = 0x77
	}
	for i := range names {
		names[i] = "spoilt"
	}
}

// reach: where memory lies: its first byte, and the one behind its last one.
func reach(at unsafe.Pointer, size uintptr) [2]uintptr {
	return [2]uintptr{uintptr(at), uintptr(at) + size}
}

// textReach: where a text lies; nowhere, if it has one byte, as the language may hand out texts of its own for it.
func textReach(s string) [2]uintptr {
	if len(s) < 2 {
		return [2]uintptr{}
	}
	return reach(unsafe.Pointer(unsafe.StringData(s)), uintptr(len(s)))
}

// listReach: where a list lies, with the room behind its end.
func listReach[T any](list []T) [2]uintptr {
	var one T
	return reach(unsafe.Pointer(unsafe.SliceData(list)), uintptr(cap(list))*unsafe.Sizeof(one))
}

// treeReach: where a tree's lists and texts lie.
func treeReach(tree api.Tree) [][2]uintptr {
	out := [][2]uintptr{listReach(tree.Nodes)}
	for _, n := range tree.Nodes {
		out = append(out, listReach(n.Data), listReach(n.Entries))
		for _, e := range n.Entries {
			out = append(out, textReach(e.Name))
		}
	}
	return out
}

// answerReach: where an answer's lists and texts lie.
func answerReach(r api.Result) [][2]uintptr {
	out := [][2]uintptr{listReach(r.Data), listReach(r.Names)}
	for _, name := range r.Names {
		out = append(out, textReach(name))
	}
	return out
}

// opReach: where an operation's texts and bytes lie.
func opReach(o api.Op) [][2]uintptr {
	return [][2]uintptr{textReach(o.Path), textReach(o.To), listReach(o.Data)}
}

// apart: have no two of these a byte of memory in common?
func apart(parts ...[][2]uintptr) bool {
	all := slices.DeleteFunc(slices.Concat(parts...), func(r [2]uintptr) bool { return r[0] == r[1] })
	slices.SortFunc(all, func(a, b [2]uintptr) int {
		if a[0] < b[0] {
			return -1
		}
		return 1
	})
	for i := 1; i < len(all); i++ {
		if all[i][0] < all[i-1][1] {
			return false
		}
	}
	return true
}

// someOps are operations of all kinds on sample's tree, that are done, that are refused, that change nothing.
func someOps() []api.Op {
	return []api.Op{
		op(api.OpCreate, "/brandnew"), op(api.OpCreate, "/d/brandnew"), op(api.OpCreate, "/a"), op(api.OpMkdir, "/d/e/brandnew"), op(api.OpMkdir, "/none/brandnew"),
		op(api.OpLink, "/a", "/brandnew"), op(api.OpLink, "/d/g", "/k/further"), op(api.OpLink, "/d", "/brandnew"),
		op(api.OpUnlink, "/a"), op(api.OpUnlink, "/d/a"), op(api.OpUnlink, "/z"), op(api.OpUnlink, "/d"),
		op(api.OpRmdir, "/k"), op(api.OpRmdir, "/d.x"), op(api.OpRmdir, "/"),
		op(api.OpRename, "/d", "/brandnew"), op(api.OpRename, "/a", "/z"), op(api.OpRename, "/k", "/d/e/v"), op(api.OpRename, "/a", "/d/a"), op(api.OpRename, "/d", "/d/e"),
		reading("/a", 0, 5), reading("/d/g", 2, 5), reading("/d/g", 10, 5), reading("/d/g", -1, 5), reading("/a", 1, 1<<63-1),
		writing("/a", 0, "other"), writing("/a", 2, "x"), writing("/z", 9, "far away"), writing("/d/g", 3, ""), writing("/d", 3, "x"),
		truncing("/a", 0), truncing("/a", 3), truncing("/a", 5), truncing("/d/g", 12), truncing("/d/g", -1),
		op(api.OpStat, "/a"), op(api.OpStat, "/"), op(api.OpList, "/"), op(api.OpList, "/d"), op(api.OpList, "/k"), op(api.OpList, "/a"),
		op(api.OpSync, "/"), op(api.OpFsync, "/a"), op(api.OpFsync, "/none"), op(99, "/a"),
	}
}

// memoryTrees are right trees, and others.
func memoryTrees() []api.Tree {
	return append(samples()[:7], of("/longname:x", "/longer.name=/longname", "/d/", "/d/another=/longname"), nodes(dir(3, to("longname", 1)), file(1, "longer")), nodes(dir(2, to("longname", 9))), rooted(2, to("bb", 1), to("aa", 2)))
}

// Nothing that is handed in is changed, nor what lies behind it.
func TestNothingIsChanged(t *testing.T) {
	for _, tree := range memoryTrees() {
		for _, o := range someOps() {
			h := hand(tree, o)
			Do(h.tree, h.op)
			Right(h.tree)
			Find(h.tree, h.op.Path)
			if !h.isAsItWas(tree, o) {
				t.Errorf("%v, %v: it is changed", short(tree), shortOp(o))
			}
		}
	}
}

// What is answered doesn't change when what was handed in does, nor when what was answered before does; no two lists share memory.
func TestAnswersAreNewMemory(t *testing.T) {
	for _, tree := range memoryTrees() {
		for _, o := range someOps() {
			h := hand(tree, o)
			want, told := Do(tree, o)
			got, answer := Do(h.tree, h.op)
			again, second := Do(h.tree, h.op)
			if !apart(treeReach(h.tree), opReach(h.op), treeReach(got), answerReach(answer), treeReach(again), answerReach(second)) {
				t.Errorf("%v, %v: memory is shared", short(tree), shortOp(o))
			}
			h.spoil()
			if !same(got, want) || !alike(answer, told) {
				t.Errorf("%v, %v: kept is what was handed in", short(tree), shortOp(o))
			}
			spoilTree(got)
			if !alike(answer, told) {
				t.Errorf("%v, %v: the answer is the tree's", short(tree), shortOp(o))
			}
			spoilAnswer(answer)
			if !same(again, want) || !alike(second, told) {
				t.Errorf("%v, %v: kept is what was answered", short(tree), shortOp(o))
			}
		}
	}
}

// Trees whose lists share memory with one another are as good as others; those that are answered don't.
func TestSharedMemoryIsHandedIn(t *testing.T) {
	data, list := []byte("0123456789"), []api.Entry{to("aa", 1), to("bb", 2), to("cc", 3), to("dd", 4)}
	tree := rooted(4, list...)
	for i := 1; i <= 4; i++ {
		tree.Nodes[i].Data = data[:2*i]
	}
	for _, o := range []api.Op{writing("/aa", 0, "xy"), writing("/bb", 6, "xyz"), truncing("/cc", 1), truncing("/aa", 10), op(api.OpRename, "/aa", "/ee"), reading("/dd", 0, 9), op(api.OpSync, "")} {
		want, told := plainDo(tree, o)
		got := does(t, tree, o, want, told)
		if !apart([][2]uintptr{listReach(tree.Nodes), listReach(data), listReach(list)}, treeReach(got)) || string(data) != "0123456789" {
			t.Errorf("%v: memory is shared", shortOp(o))
		}
	}
	o := writing("/aa", 1, "")
	o.Data = data[3:6]
	want, told := plainDo(tree, o)
	does(t, tree, o, want, told)
}

// New answers new memory each time.
func TestNewIsNewMemory(t *testing.T) {
	first, second := New(), New()
	if !apart(treeReach(first), treeReach(second)) {
		t.Error("memory is shared")
	}
	spoilTree(first)
	if !same(second, of()) || !same(New(), of()) {
		t.Error("New is changed")
	}
}

// A tree that is turned between two calls is another one: nothing is kept of what it was.
func TestNothingIsKept(t *testing.T) {
	h := hand(of("/bb:x", "/dd:yz"), op(api.OpStat, "/bb"))
	tells(t, h.tree, h.op, api.Result{Kind: api.KFile, Links: 1, Size: 1})
	finds(t, h.tree, "/bb", 1, api.OK)
	h.tree.Nodes[0].Entries[0].Name = "cc"
	refuses(t, h.tree, api.ErrNone, h.op)
	finds(t, h.tree, "/bb", 0, api.ErrNone)
	finds(t, h.tree, "/cc", 1, api.OK)
	h.tree.Nodes[0].Entries[0].Name = "ee"
	isCorrupt(t, h.tree, h.op)
	rights(t, false, h.tree)
	h.tree.Nodes[0].Entries[0].Name = "bb"
	rights(t, true, h.tree)
	h.tree.Nodes[1] = dir(2)
	rights(t, false, h.tree)
	h.tree.Nodes[0].Links = 3
	tells(t, h.tree, h.op, api.Result{Kind: api.KDir, Links: 2})
	h.tree.Nodes[2].Data = []byte(strings.Repeat("x", 46369))
	rights(t, false, h.tree)
}
