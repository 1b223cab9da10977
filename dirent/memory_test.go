package dirent

import (
	"bytes"
	"slices"
	"testing"
	"unsafe"

	"moraine/api"
)

// hiddenName is the name of what lies behind a list's length in its memory.
const hiddenName = "hidden"

// soft is a text over bytes that can be turned, with more bytes behind its end.
func soft(s string) (string, []byte) {
	memory := append([]byte(s), "more"...)
	return unsafe.String(unsafe.SliceData(memory), len(s)), memory
}

// softList is a list whose names are over bytes that can be turned.
func softList(list []api.Entry) ([]api.Entry, [][]byte) {
	var out []api.Entry
	var memories [][]byte
	for _, e := range list {
		name, memory := soft(e.Name)
		out, memories = append(out, entry(name, e.Ino)), append(memories, memory)
	}
	return out, memories
}

// spoil turns all bytes of some memories.
func spoil(memories ...[]byte) {
	for _, memory := range memories {
		for i := range memory {
			memory[i] ^= 0x55
		}
	}
}

// spoilList fills all of a list's memory, the room behind its end, too.
func spoilList(list []api.Entry) {
	whole := list[:cap(list)]
	for i := range whole {
		whole[i] = entry("spoilt", -9)
	}
}

// reach: where memory lies: its first byte, and the one behind its last one.
func reach(at unsafe.Pointer, size uintptr) [2]uintptr {
	return [2]uintptr{uintptr(at), uintptr(at) + size}
}

// reaches: where a list lies, with the room behind its end, and each of its names; but for those of one byte, of which the language may hand out texts of its own.
func reaches(list []api.Entry) [][2]uintptr {
	out := [][2]uintptr{reach(unsafe.Pointer(unsafe.SliceData(list)), uintptr(cap(list))*unsafe.Sizeof(api.Entry{}))}
	for _, e := range list {
		if len(e.Name) > 1 {
			out = append(out, reachOf(e.Name))
		}
	}
	return out
}

// reachOf: where a text lies.
func reachOf(s string) [2]uintptr {
	return reach(unsafe.Pointer(unsafe.StringData(s)), uintptr(len(s)))
}

// apart: have no two of these a byte of memory in common?
func apart(parts ...[][2]uintptr) bool {
	all := slices.Concat(parts...)
	for i, a := range all {
		for _, b := range all[:i] {
			if a[0] < b[1] && b[0] < a[1] {
				return false
			}
		}
	}
	return true
}

// roomy: a list with room behind its end, where other entries are.
func roomy(list []api.Entry) []api.Entry {
	memory := append(slices.Clone(list), of(hiddenName, hiddenName, hiddenName)...)
	return memory[:len(list)]
}

// asItWas: is a roomy list still as it was, and what lies behind it?
func asItWas(list, before []api.Entry) bool {
	whole := list[:len(before)+3]
	return slices.Equal(whole, slices.Concat(before, of(hiddenName, hiddenName, hiddenName)))
}

// anyLists are lists whose names rise, and others.
func anyLists() [][]api.Entry {
	return append(risingLists(), of("b", "a"), of("a", "a"), of("a", "b", "a"), make([]api.Entry, 5))
}

// No list that is handed in is changed, nor what lies behind it, whatever is answered.
func TestNoListIsChanged(t *testing.T) {
	for _, before := range anyLists() {
		list := roomy(before)
		names := []string{"", "a", "b", "m", "zz", "\xff"}
		for _, e := range before {
			names = append(names, e.Name)
		}
		Encode(list)
		for _, name := range names {
			Find(list, name)
			Put(list, entry(name, 77))
			Cut(list, name)
			if !asItWas(list, before) {
				t.Fatalf("%v: it is changed by %q", shortList(before), name)
			}
		}
	}
}

// No bytes that are handed in are changed, nor what lies behind them.
func TestNoBytesAreChanged(t *testing.T) {
	for _, list := range anyLists() {
		for _, cut := range []int{0, 1, 2, 3, 4, 5} {
			b := plainBytes(list)
			b = b[:max(len(b)-cut, 0)]
			before := append(slices.Clone(b), "\x01\x00\x01z"...)
			memory := slices.Clone(before)
			Decode(memory[:len(b)])
			if !bytes.Equal(memory, before) {
				t.Errorf("%v: they are changed", shortBytes(b))
			}
		}
	}
}

// No text's bytes are changed, neither an entry's nor those of a name beside the list.
func TestNoTextIsChanged(t *testing.T) {
	for _, before := range anyLists() {
		list, memories := softList(before)
		for _, s := range []string{"", "a", "ab", "m", "zz", "\xff\xff"} {
			name, memory := soft(s)
			Encode(list)
			Encode(of(name))
			Find(list, name)
			Put(list, entry(name, 3))
			Cut(list, name)
			if string(memory) != s+"more" {
				t.Errorf("%q: it is changed", s)
			}
		}
		for i, e := range before {
			if string(memories[i]) != e.Name+"more" {
				t.Errorf("%q: it is changed", e.Name)
			}
		}
	}
}

// What Encode answers doesn't change when the list does, and isn't in its memory.
func TestEncodeKeepsNothing(t *testing.T) {
	for _, before := range [][]api.Entry{nil, of("a"), of("a", "ab", "b"), many(64), of(someNames()...)} {
		list, memories := softList(before)
		b, _ := Encode(list)
		spoil(memories...)
		spoilList(list)
		if !bytes.Equal(b, plainBytes(before)) {
			t.Errorf("Encode(%v): %v, when the list is another one", before, b)
		}
	}
}

// What Decode answers doesn't change when the bytes do.
func TestDecodeKeepsNothing(t *testing.T) {
	for _, want := range [][]api.Entry{nil, of("a"), of("a", "ab", "b"), many(64), of(someNames()...)} {
		b := plainBytes(want)
		list, ok := Decode(b)
		spoil(b)
		if !slices.Equal(list, want) || !ok {
			t.Errorf("Decode of the bytes of %v: %v, when they are others", want, list)
		}
	}
}

// What Put and Cut answer doesn't change when the list, its names' bytes or the entry's do.
func TestPutAndCutKeepNothing(t *testing.T) {
	for _, before := range risingLists() {
		names := []string{"", "a", "b", "ba", "m", "zz", "\xff", "\xff\xff\xff"}
		for at := 0; at < len(before); at += 7 {
			names = append(names, before[at].Name)
		}
		for _, s := range names {
			list, memories := softList(before)
			list = roomy(list)
			name, memory := soft(s)
			put, cut := Put(list, entry(name, 6)), Cut(list, name)
			if len(before) <= 64 && !apart(reaches(list), reaches(put), reaches(cut), [][2]uintptr{reachOf(name)}) {
				t.Errorf("Put, Cut(%v, %q): memory is shared", shortList(before), s)
			}
			spoil(append(memories, memory)...)
			spoilList(list)
			if !slices.Equal(put, plainPut(before, entry(s, 6))) || !slices.Equal(cut, plainCut(before, s)) {
				t.Errorf("Put, Cut(%v, %q): %v, %v, when what was handed in is another one", shortList(before), s, shortList(put), shortList(cut))
			}
		}
	}
}

// What is answered shares no memory with what was answered before, also where it is the same; filling all of it changes no other answer.
func TestAnswersAreNewMemory(t *testing.T) {
	for _, list := range [][]api.Entry{nil, of("a"), of("a", "ab", "b"), many(63), many(64), of(someNames()...)} {
		want := plainBytes(list)
		first, _ := Encode(list)
		second, _ := Encode(list)
		spoil(first[:cap(first)])
		if !bytes.Equal(second, want) {
			t.Errorf("Encode(%v): the bytes are shared", list)
		}
		encodes(t, list, want)

		one, _ := Decode(want)
		two, _ := Decode(want)
		put, cut := Put(list, entry("b", 2)), Cut(list, "b")
		putAgain, cutAgain := Put(list, entry("b", 2)), Cut(list, "b")
		if !apart(reaches(list), reaches(one), reaches(two), reaches(put), reaches(cut), reaches(putAgain), reaches(cutAgain)) {
			t.Errorf("%v: memory is shared", list)
		}
		spoilList(one)
		spoilList(put)
		spoilList(cut)
		if !slices.Equal(two, list) || !slices.Equal(putAgain, plainPut(list, entry("b", 2))) || !slices.Equal(cutAgain, plainCut(list, "b")) {
			t.Errorf("%v: a list is shared", list)
		}
		decodes(t, want, list)
		puts(t, list, entry("b", 2), plainPut(list, entry("b", 2)))
		cuts(t, list, "b", plainCut(list, "b"))
	}
}

// Putting what isn't there twice into one list, and appending to what is answered, makes lists of their own.
func TestAnswersAreHandedOn(t *testing.T) {
	base := Put(Put(nil, entry("b", 1)), entry("d", 2))
	left, right := Put(base, entry("a", 3)), Put(base, entry("e", 4))
	grown := append(base, entry("x", 5))
	also := append(base, entry("y", 6))
	cut := Cut(base, "b")
	_ = append(cut, entry("z", 7))
	if !slices.Equal(left, []api.Entry{entry("a", 3), entry("b", 1), entry("d", 2)}) || !slices.Equal(right, []api.Entry{entry("b", 1), entry("d", 2), entry("e", 4)}) {
		t.Errorf("%v, %v", left, right)
	}
	if !slices.Equal(base, []api.Entry{entry("b", 1), entry("d", 2)}) || len(grown) != 3 || len(also) != 3 || !slices.Equal(cut, []api.Entry{entry("d", 2)}) {
		t.Errorf("%v, %v, %v, %v", base, grown, also, cut)
	}
	spoilList(left)
	if !slices.Equal(base, []api.Entry{entry("b", 1), entry("d", 2)}) {
		t.Errorf("%v", base)
	}
}

// Memory that now has something else is answered as that: nothing is remembered by where it is.
func TestNothingIsRemembered(t *testing.T) {
	list := of("a", "b")
	b := plainBytes(list)
	encodes(t, list, b)
	decodes(t, b, list)
	finds(t, list, "b", 1, true)
	list[1].Name = "c"
	b[7] = 'c'
	encodes(t, list, b)
	decodes(t, b, list)
	finds(t, list, "b", 1, false)
	cuts(t, list, "b", list)
	list[1].Name = "a"
	b[7] = 'a'
	encodesNot(t, list)
	decodesNot(t, b)
	list[1] = entry("b", 57)
	b[7], b[4] = 'b', 57
	encodesNot(t, list)
	decodesNot(t, b)
	name, memory := soft("b")
	finds(t, of("b", "d"), name, 0, true)
	memory[0] = 'd'
	finds(t, of("b", "d"), name, 1, true)
	cuts(t, of("b", "d"), name, of("b"))
}
