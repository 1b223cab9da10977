package need

import (
	"bytes"
	"slices"
	"testing"
	"unsafe"

	"moraine/api"
	"moraine/tree"
)

// hiddenText lies behind the length of what is handed in, in its memory.
const hiddenText = "hidden"

// handed is a tree that is handed in, with all its memory: each text lies over bytes that can be turned, each list has more behind its length.
type handed struct {
	tree     api.Tree
	memories [][]byte
}

// bytes: the same bytes, with others behind them.
func (h *handed) bytes(b []byte) []byte {
	memory := append(slices.Clone(b), hiddenText...)
	h.memories = append(h.memories, memory)
	return memory[:len(b)]
}

// text: a text over bytes of this memory.
func (h *handed) text(s string) string {
	return unsafe.String(unsafe.SliceData(h.bytes([]byte(s))), len(s))
}

// hiddenEntries and hiddenNodes lie behind lists.
func hiddenEntries() []api.Entry {
	return []api.Entry{to(hiddenText, 1), to(hiddenText, -2), to(hiddenText, 3)}
}

func hiddenNodes() []api.Node {
	return []api.Node{dir(7), file([]byte(hiddenText)), dir(9, to(hiddenText, 1))}
}

// hand: a tree in such memory.
func hand(x api.Tree) *handed {
	h := &handed{}
	var list []api.Node
	for _, n := range x.Nodes {
		n.Data = h.bytes(n.Data)
		var all []api.Entry
		for _, e := range n.Entries {
			all = append(all, to(h.text(e.Name), e.Ino))
		}
		n.Entries = append(all, hiddenEntries()...)[:len(all)]
		list = append(list, n)
	}
	h.tree.Nodes = append(list, hiddenNodes()...)[:len(list)]
	return h
}

// sameNode: are nodes the same?
func sameNode(a, b api.Node) bool {
	return a.Kind == b.Kind && a.Links == b.Links && bytes.Equal(a.Data, b.Data) && slices.Equal(a.Entries, b.Entries)
}

// isAsItWas: is all as it was handed in, behind the lengths, too?
func (h *handed) isAsItWas(x api.Tree) bool {
	for _, memory := range h.memories {
		if !bytes.HasSuffix(memory, []byte(hiddenText)) {
			return false
		}
	}
	for _, n := range h.tree.Nodes {
		end := len(n.Entries)
		if !slices.Equal(n.Entries[end:end+3], hiddenEntries()) {
			return false
		}
	}
	end := len(x.Nodes)
	return slices.EqualFunc(h.tree.Nodes, x.Nodes, sameNode) && slices.EqualFunc(h.tree.Nodes[end:end+3], hiddenNodes(), sameNode)
}

// spoil turns all that was handed in.
func (h *handed) spoil() {
	for _, memory := range h.memories {
		fill(memory, 0x77)
	}
	for _, n := range h.tree.Nodes {
		fill(n.Entries, to("spoilt", -9))
	}
	fill(h.tree.Nodes, file([]byte("spoilt")))
}

// fill fills all memory of a list, the room behind its end, too.
func fill[T any](list []T, with T) {
	whole := list[:cap(list)]
	for i := range whole {
		whole[i] = with
	}
}

// reach: where a list lies, with the room behind its end: its first byte, and the one behind its last one.
func reach[T any](list []T) [2]uintptr {
	var one T
	at := uintptr(unsafe.Pointer(unsafe.SliceData(list)))
	return [2]uintptr{at, at + uintptr(cap(list))*unsafe.Sizeof(one)}
}

// reaches: where all that was handed in lies.
func (h *handed) reaches() [][2]uintptr {
	out := [][2]uintptr{reach(h.tree.Nodes)}
	for _, memory := range h.memories {
		out = append(out, reach(memory))
	}
	for _, n := range h.tree.Nodes {
		out = append(out, reach(n.Entries))
	}
	return out
}

// apart: have no two of these a byte of memory in common?
func apart(all ...[2]uintptr) bool {
	for i, a := range all {
		for _, b := range all[:i] {
			if a[0] < b[1] && b[0] < a[1] {
				return false
			}
		}
	}
	return true
}

// memoryTrees are right trees, and others.
func memoryTrees() []api.Tree {
	return []api.Tree{
		tree.New(), holding(nil), holding(filled(100), noughts(100), with(3, 20, 50)), holding(filled(46368)), holding(slices.Repeat([][]byte{[]byte("ab")}, 55)...), nodes(dir(3, to("longname", 1)), dir(2)), nodes(dir(2, to("longname", 1), to("longname2", 1)), file([]byte("longer"))),
		{}, nodes(dir(2, to("bb", 1), to("aa", 2)), file(nil)), nodes(dir(2, to("longname", 55), to("n", 56))), nodes(dir(2, entries(65, 5)...)), nodes(strange(0, filled(9)), strange(7, noughts(200))), nodes(api.Node{Kind: api.KDir, Data: []byte("data"), Entries: entries(64, 12)}), nodes(api.Node{Kind: api.KFile, Data: []byte("data"), Entries: entries(64, 12)}),
	}
}

// Nothing that is handed in is changed, nor what lies behind it.
func TestNothingIsChanged(t *testing.T) {
	for _, x := range memoryTrees() {
		h := hand(x)
		for _, n := range h.tree.Nodes {
			Says(n)
			There(n.Data)
		}
		Data(h.tree)
		More(h.tree)
		for _, g := range append(noGeometries(), small(), large()) {
			Fits(g, h.tree)
		}
		if !h.isAsItWas(x) {
			t.Errorf("%v: it is changed", shortTree(x))
		}
	}
}

// A list of blocks is as it was, in its order, also behind its end.
func TestNoListIsChanged(t *testing.T) {
	for _, list := range [][]int{nil, {16}, {827, 44, 16, 44, 15, -1}, from(0, 828), noBlocks(), {72, 71, 70, 16, 16, 16}} {
		memory := append(slices.Clone(list), 9, 300, 16, -7)
		before := slices.Clone(memory)
		points(t, plainPointing(list), memory[:len(list)]...)
		if !slices.Equal(memory, before) {
			t.Errorf("%v: it is changed", short(list))
		}
	}
}

// What Says answers shares no memory with what was handed in, nor with what was answered before, the room behind its end neither.
func TestSaysAnswersNewMemory(t *testing.T) {
	for _, x := range memoryTrees() {
		for place, n := range x.Nodes {
			want := bytes.Clone(plainSays(n))
			h := hand(x)
			first, second := Says(h.tree.Nodes[place]), Says(h.tree.Nodes[place])
			if !apart(reach(first), reach(second)) {
				t.Errorf("%v: the answers share memory", shortNode(n))
			}
			for _, there := range h.reaches() {
				if !apart(reach(first), there) || !apart(reach(second), there) {
					t.Errorf("%v: memory is shared", shortNode(n))
				}
			}
			fill(first, 0x77)
			if !bytes.Equal(second, want) || !h.isAsItWas(x) {
				t.Errorf("%v: an answer's bytes are another's, or the node's", shortNode(n))
			}
			h.spoil()
			if !bytes.Equal(second, want) {
				t.Errorf("%v: kept is what was handed in", shortNode(n))
			}
			says(t, n, want)
		}
	}
}

// Bytes without any behind them are answered in new memory, too.
func TestSaysTightBytes(t *testing.T) {
	for _, n := range []int{1, 8, 56, 64, 4096, 46368} {
		b := slices.Clip(filled(n))
		for _, kind := range append(kinds(), api.KFile) {
			got := Says(strange(kind, b))
			if !apart(reach(got), reach(b)) {
				t.Errorf("%d, %d bytes: memory is shared", kind, n)
			}
			fill(got, 'y')
			if !bytes.Equal(b, filled(n)) {
				t.Errorf("%d, %d bytes: they are changed", kind, n)
			}
		}
	}
}

// So with There.
func TestThereAnswersNewMemory(t *testing.T) {
	for _, b := range [][]byte{nil, {1}, filled(57), filled(46368), with(0, 5, 9), noughts(300), append(noughts(300), 1)} {
		want := plainThere(b)
		memory := slices.Clone(b)
		first, second := There(memory), There(memory)
		if !apart(reach(first), reach(second), reach(memory)) {
			t.Errorf("%d bytes: memory is shared", len(b))
		}
		fill(first, -5)
		if !slices.Equal(second, want) || !bytes.Equal(memory, b) {
			t.Errorf("%d bytes: an answer is another one's", len(b))
		}
		fill(memory, 0x55)
		if !slices.Equal(second, want) {
			t.Errorf("%d bytes: kept is what was handed in", len(b))
		}
		isThere(t, b, want...)
	}
}

// Memory that now has something else is answered as that: nothing is remembered by where it is.
func TestNothingIsRemembered(t *testing.T) {
	b := with(1, 16)
	x := holding(b)
	isThere(t, b, 1, 16)
	needs(t, x, 3, 6)
	fits(t, true, small(), x)
	clear(b)
	isThere(t, b)
	needs(t, x, 1, 5)
	copy(b, filled(len(b)))
	isThere(t, b, from(0, 17)...)
	needs(t, x, 18, 6)
	fits(t, false, small(), x)
	x.Nodes[0].Entries[0].Ino = 56
	says(t, x.Nodes[0], nil)
	needs(t, x, 17, 6)
	x.Nodes[0].Entries[0].Ino = 7
	says(t, x.Nodes[0], []byte{8, 0, 1, '0'})
	x.Nodes[1] = dir(2)
	needs(t, x, 1, 5)
	fits(t, false, small(), x)
	x.Nodes[0] = dir(3, to("0", 1))
	fits(t, true, small(), x)

	list := []int{16, 44}
	points(t, 3, list...)
	list[0] = 72
	points(t, 3, list...)
	list[1] = 73
	points(t, 2, list...)
	list[0], list[1] = 15, 828
	points(t, 0, list...)
}

// What one call answers may be handed to the next ones.
func TestAnswersAreHandedOn(t *testing.T) {
	for _, x := range memoryTrees() {
		data, more := 0, 3
		for _, n := range x.Nodes {
			b := Says(n)
			there := There(b)
			data += len(there)
			more += 1 + Pointing(there)
			isThere(t, b, there...)
			says(t, file(b), b)
		}
		needs(t, x, data, more)
	}
}
