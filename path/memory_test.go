package path

import (
	"slices"
	"testing"
	"unsafe"

	"moraine/api"
)

// hidden is what lies behind a list's length in its memory.
const hidden = "hidden"

// soft is a text over bytes that can be turned, with more bytes behind its end.
func soft(s string) (string, []byte) {
	memory := append([]byte(s), "/more"...)
	return unsafe.String(unsafe.SliceData(memory), len(s)), memory
}

// spoil turns all bytes of a memory.
func spoil(memory []byte) {
	for i := range memory {
		memory[i] ^= 0x55
	}
}

// firm: a text that shares no memory with this one.
func firm(s string) string {
	return string([]byte(s))
}

// reach: where a text's bytes are: the first one, and the one behind the last one.
func reach(s string) (uintptr, uintptr) {
	at := uintptr(unsafe.Pointer(unsafe.StringData(s)))
	return at, at + uintptr(len(s))
}

// apart: have no two of these texts a byte of memory in common?
func apart(list ...string) bool {
	for i, a := range list {
		for _, b := range list[:i] {
			from, to := reach(a)
			fromB, toB := reach(b)
			if len(a) > 0 && len(b) > 0 && from < toB && fromB < to {
				return false
			}
		}
	}
	return true
}

// roomy: a list with room behind its end, where other texts are.
func roomy(names []string) []string {
	memory := append(slices.Clone(names), hidden, hidden, hidden)
	return memory[:len(names)]
}

// asItWas: is a roomy list still as it was, and what lies behind it?
func asItWas(list, before []string) bool {
	whole := list[:len(before)+3]
	return slices.Equal(whole[:len(before)], before) && slices.Equal(whole[len(before):], []string{hidden, hidden, hidden})
}

// lists are lists of texts: of which there are paths, and not.
func lists() [][]string {
	return [][]string{nil, {"a"}, {"b", "a"}, letters(8), letters(9), someNames()[:8], {"a", ""}, {"", "b"}, {".."}, {"a/b", "c"}, {"abcdefghijkl", "abcdefghijkl"}, slices.Repeat([]string{"ab"}, 8)}
}

// No list that is handed in is changed, nor what lies behind it, whatever is answered.
func TestNothingHandedInIsChanged(t *testing.T) {
	for _, before := range lists() {
		list := roomy(before)
		Join(list)
		if !asItWas(list, before) {
			t.Errorf("Join(%q): it is changed", before)
		}
	}
}

// No text's bytes are changed, nor what lies behind them.
func TestNoTextIsChanged(t *testing.T) {
	for _, s := range slices.Concat(somePaths(), noPaths(), someNames(), noNames(), slashed()) {
		text, memory := soft(s)
		Name(text)
		Split(text)
		Within(text, "/a")
		Within("/a/b", text)
		Within(text, text)
		Join([]string{text})
		Join([]string{"a", text, text})
		if want := s + "/more"; string(memory) != want {
			t.Errorf("%q: it is changed", short(s))
		}
	}
}

// What Split answers doesn't change when the path's bytes do.
func TestSplitKeepsNothing(t *testing.T) {
	for _, path := range somePaths() {
		want, _ := plainSplit(path)
		text, memory := soft(path)
		names, err := Split(text)
		if !apart(append(slices.Clone(names), text)...) {
			t.Errorf("Split(%q): memory is shared", path)
		}
		spoil(memory)
		if !slices.Equal(names, want) || err != api.OK {
			t.Errorf("Split(%q): %q, %d, when its bytes are others", path, names, err)
		}
		splits(t, path, want...)
	}
}

// What Join answers doesn't change when the names' bytes do, or the list.
func TestJoinKeepsNothing(t *testing.T) {
	for _, names := range lists() {
		want, wrong := plainJoin(names)
		if wrong != api.OK {
			continue
		}
		var list []string
		var memories [][]byte
		for _, name := range names {
			text, memory := soft(name)
			list, memories = append(list, text), append(memories, memory)
		}
		path, err := Join(list)
		if !apart(append(slices.Clone(list), path)...) {
			t.Errorf("Join(%q): memory is shared", names)
		}
		for _, memory := range memories {
			spoil(memory)
		}
		clear(list)
		if path != want || err != api.OK {
			t.Errorf("Join(%q): %q, %d, when the names' bytes are others", names, path, err)
		}
		joins(t, want, names...)
	}
}

// A text that is now another one is answered as that: nothing is remembered by where it is.
func TestNothingIsRemembered(t *testing.T) {
	text, memory := soft("/a/b")
	splits(t, text, "a", "b")
	within(t, true, text, "/a")
	copy(memory, "/cd/")
	splitsNot(t, text)
	within(t, false, text, "/cd")
	copy(memory, "/c.d")
	splits(t, text, "c.d")
	within(t, false, text, "/a")
	name, bytes := soft("..x")
	isName(t, true, name)
	joins(t, "/..x", name)
	bytes[1] = 0
	isName(t, false, name)
	joinsNot(t, name)
}

// What is answered shares no memory with what was answered before, nor with itself: neither lists nor texts.
func TestAnswersAreNewMemory(t *testing.T) {
	for _, path := range somePaths() {
		want, _ := plainSplit(path)
		first, _ := Split(path)
		second, _ := Split(path)
		if !apart(slices.Concat(first, second)...) {
			t.Errorf("Split(%q): two names share memory", path)
		}
		// The list's spare room is its own, too.
		whole := first[:cap(first)]
		for i := range whole {
			whole[i] = hidden
		}
		third, _ := Split(path)
		if !slices.Equal(second, want) || !slices.Equal(third, want) {
			t.Errorf("Split(%q): a list is shared", path)
		}
		_ = append(second, hidden, hidden)
		splits(t, path, want...)
		one, _ := Join(want)
		two, _ := Join(want)
		if one != path || two != path || !apart(append(slices.Clone(third), path, one, two)...) {
			t.Errorf("Join(%q): memory is shared", want)
		}
	}
}

// So with "/", which is one byte, of no names.
func TestTheRootIsNewMemory(t *testing.T) {
	var all []string
	for range 9 {
		for _, names := range [][]string{nil, {}} {
			path, _ := Join(names)
			all = append(all, path)
		}
	}
	if !apart(all...) {
		t.Error("two answers share memory")
	}
}

// A path answered may be handed on, and so may names.
func TestAnswersAreHandedOn(t *testing.T) {
	path, _ := Join([]string{"a", "b"})
	names, _ := Split(path)
	longer, _ := Join(append(names, "c"))
	joins(t, "/a/b/c", "a", "b", "c")
	within(t, true, longer, path)
	within(t, false, path, longer)
	kept := firm(longer)
	names = append(names[:0], "x", "y")
	if longer != kept || path != "/a/b" {
		t.Errorf("%q, %q", longer, path)
	}
	joins(t, "/x/y", names...)
}
