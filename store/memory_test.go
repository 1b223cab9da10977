package store

import (
	"bytes"
	"slices"
	"testing"
	"unsafe"

	"moraine/api"
)

// hiddenText lies behind the length of what is handed in, in its memory.
const hiddenText = "hidden"

// handed is a tree that is handed in, with all its memory: each text lies over bytes that can be turned, each list has more behind its length.
type handed struct {
	tree     api.Tree
	memories [][]byte
}

// bytes: the same bytes, with others behind them.
func (h *handed) bytes(b []byte) []byte {
	memory := append(slices.Clone(b), hiddenText...)
	h.memories = append(h.memories, memory)
	return memory[:len(b)]
}

// text: a text over bytes of this memory.
func (h *handed) text(s string) string {
	return unsafe.String(unsafe.SliceData(h.bytes([]byte(s))), len(s))
}

// hidden stands behind the length of lists.
func hidden() api.Entry {
	return api.Entry{Name: hiddenText, Ino: 1}
}

// hand: a tree in such memory.
func hand(x api.Tree) *handed {
	h := &handed{}
	for _, n := range x.Nodes {
		n.Data = h.bytes(n.Data)
		var entries []api.Entry
		for _, e := range n.Entries {
			entries = append(entries, api.Entry{Name: h.text(e.Name), Ino: e.Ino})
		}
		n.Entries = append(entries, hidden())[:len(entries)]
		h.tree.Nodes = append(h.tree.Nodes, n)
	}
	n := len(h.tree.Nodes)
	h.tree.Nodes = append(h.tree.Nodes, api.Node{Kind: 7})[:n]
	return h
}

// isAsItWas: is all as it was handed in, behind the lengths, too?
func (h *handed) isAsItWas(x api.Tree) bool {
	for _, memory := range h.memories {
		if !bytes.HasSuffix(memory, []byte(hiddenText)) {
			return false
		}
	}
	for _, n := range h.tree.Nodes {
		if n.Entries[:len(n.Entries)+1][len(n.Entries)] != hidden() {
			return false
		}
	}
	n := len(h.tree.Nodes)
	return sameTree(h.tree, x) && h.tree.Nodes[:n+1][n].Kind == 7
}

// spoil turns all that was handed in.
func (h *handed) spoil() {
	for _, memory := range h.memories {
		for i := range memory {
			memory[i] ^= 0x55
		}
	}
	spoilTree(h.tree)
}

// spoilTree fills all memory of a tree's lists, the room behind their ends, too.
func spoilTree(x api.Tree) {
	for _, n := range x.Nodes {
		data, entries := n.Data[:cap(n.Data)], n.Entries[:cap(n.Entries)]
		for i := range data {
			data[i] = 0x77
		}
		for i := range entries {
			entries[i] = api.Entry{Name: "spoilt", Ino: -9}
		}
	}
	list := x.Nodes[:cap(x.Nodes)]
	for i := range list {
		list[i] = api.Node{Kind: -9}
	}
}

// reach: where a list lies, with the room behind its end.
func reach[T any](list []T) [2]uintptr {
	at := uintptr(unsafe.Pointer(unsafe.SliceData(list)))
	var one T
	return [2]uintptr{at, at + uintptr(cap(list))*unsafe.Sizeof(one)}
}

// treeReach: where a tree's lists and texts lie; texts of one byte the language itself may hand out.
func treeReach(x api.Tree) [][2]uintptr {
	out := [][2]uintptr{reach(x.Nodes)}
	for _, n := range x.Nodes {
		out = append(out, reach(n.Data), reach(n.Entries))
		for _, e := range n.Entries {
			if len(e.Name) > 1 {
				out = append(out, reach(unsafe.Slice(unsafe.StringData(e.Name), len(e.Name))))
			}
		}
	}
	return out
}

// areApart: do none of these places meet?
func areApart(list [][2]uintptr) bool {
	for i, a := range list {
		for _, b := range list[:i] {
			if a[0] < b[1] && b[0] < a[1] {
				return false
			}
		}
	}
	return true
}

// trees are some that fit, and some that are refused.
func trees(t *testing.T) []api.Tree {
	t.Helper()
	return append(notRight(), alone(), some(t, 4), filled(t, 10, 15), filled(t, 11, 15), filled(t, 2, 16))
}

// Put changes nothing of a tree, whatever it answers, and keeps nothing of its memory.
func TestPutKeepsNoMemory(t *testing.T) {
	for i, x := range trees(t) {
		s, r := formatted(t, small())
		h := hand(x)
		want := alone()
		if s.Put(h.tree) == api.OK {
			want = x
		}
		if !h.isAsItWas(x) {
			t.Errorf("tree %d: it has changed", i)
		}
		h.spoil()
		holds(t, s, want)
		is(t, "Lay", s.Lay(), api.OK)
		holds(t, s, want)
		holds(t, mounts(t, r), want)
	}
}

// What Tree answers is new memory, whether its blocks are new or on the disks: it may be turned, and shares none with another answer, nor within one.
func TestTreeAnswersNewMemory(t *testing.T) {
	for _, x := range []api.Tree{alone(), some(t, 4), filled(t, 10, 15)} {
		s, r := formatted(t, small())
		is(t, "Put", s.Put(x), api.OK)
		for range 3 {
			a, _ := s.Tree()
			b, _ := s.Tree()
			if !areApart(append(treeReach(a), treeReach(b)...)) {
				t.Error("answers share memory")
			}
			spoilTree(a)
			if !sameTree(b, x) {
				t.Error("an answer has changed")
			}
			holds(t, s, x)
			is(t, "Put of an answer", s.Put(b), api.OK)
			spoilTree(b)
			holds(t, s, x)
			is(t, "Lay", s.Lay(), api.OK)
			if s.Mark() == api.OK {
				s = mounts(t, r)
			}
		}
	}
}

// What Live answers may be turned.
func TestLiveAnswersNewMemory(t *testing.T) {
	s, _ := stored(t, small(), some(t, 4))
	a, b := s.Live(), s.Live()
	if !areApart([][2]uintptr{reach(a), reach(b)}) {
		t.Error("answers share memory")
	}
	for i := range a[:cap(a)] {
		a[:cap(a)][i] = -1
	}
	uses(t, s, [2]int{1, 2}, [2]int{2, 3}, [2]int{3, 4}, [2]int{4, 5})
	is(t, "Lay", s.Lay(), api.OK)
	holds(t, s, some(t, 4))
	if !slices.Equal(b, []int{1, 2, 3, 4}) {
		t.Errorf("an answer has changed: %v", b)
	}
}

// What was read of a rack for one store isn't shared with another one of the same rack.
func TestTwoMountsShareNoMemory(t *testing.T) {
	s, r := stored(t, small(), some(t, 4))
	a, b := mounts(t, r), mounts(t, r)
	is(t, "Put", a.Put(some(t, 5)), api.OK)
	holds(t, b, some(t, 4))
	holds(t, s, some(t, 4))
	x, _ := a.Tree()
	spoilTree(x)
	holds(t, b, some(t, 4))
	holds(t, a, some(t, 5))
}
