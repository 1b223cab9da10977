package meta

import (
	"bytes"
	"slices"
	"testing"
	"unsafe"

	"moraine/api"
)

// fill fills all memory of a list, the room behind its end, too.
func fill[T any](list []T, with T) {
	whole := list[:cap(list)]
	for i := range whole {
		whole[i] = with
	}
}

// reach: where a list lies, with the room behind its end: its first byte, and the one behind its last one.
func reach[T any](list []T) [2]uintptr {
	var one T
	at := uintptr(unsafe.Pointer(unsafe.SliceData(list)))
	return [2]uintptr{at, at + uintptr(cap(list))*unsafe.Sizeof(one)}
}

// apart: have no two of these a byte of memory in common?
func apart(all ...[2]uintptr) bool {
	slices.SortFunc(all, func(a, b [2]uintptr) int { return int(int64(a[0]) - int64(b[0])) })
	// Lists without room lie nowhere.
	all = slices.DeleteFunc(all, func(a [2]uintptr) bool { return a[0] == a[1] })
	for i := 1; i < len(all); i++ {
		if all[i-1][1] > all[i][0] {
			return false
		}
	}
	return true
}

// hidden lies behind the length of a list that is handed in, in its memory.
func hidden[T any](list []T, more ...T) (handed, whole []T) {
	whole = append(slices.Clone(list), more...)
	return whole[:len(list)], whole
}

// ofList: where a list of nodes lies, and each node's addresses.
func ofList(list []api.Inode) [][2]uintptr {
	out := [][2]uintptr{reach(list)}
	for _, n := range list[:cap(list)] {
		out = append(out, reach(n.Addrs))
	}
	return out
}

// ofBlocks: where blocks lie, and each one's bytes.
func ofBlocks(list []api.Block) [][2]uintptr {
	out := [][2]uintptr{reach(list)}
	for _, b := range list[:cap(list)] {
		out = append(out, reach(b.Data))
	}
	return out
}

// spoil fills all memory of a list of nodes.
func spoil(list []api.Inode) {
	for _, n := range list {
		fill(n.Addrs, -7)
	}
	fill(list, api.Inode{Ino: -1, Kind: 9, Addrs: []int{-3}})
}

// spoilBlocks fills all memory of blocks.
func spoilBlocks(list []api.Block) {
	for _, b := range list {
		fill(b.Data, 0x77)
	}
	fill(list, api.Block{Owner: -5, Data: []byte{1}})
}

// memoryLists are lists of nodes, right ones and others.
func memoryLists() [][]api.Inode {
	return [][]api.Inode{nil, {alone()}, small(), rich(), {sized(1, 5)}, withRoot(alone()), withRoot(file(2, 3777, 5)), withRoot(file(9, 0, 0, 5, 0))}
}

// withHidden: a list whose memory goes on behind its length, and its nodes' addresses', and all of that.
func withHidden(list []api.Inode, more api.Inode, addresses ...int) (handed, whole []api.Inode, memory [][]int) {
	handed, whole = hidden(list, more, more)
	for i := range whole {
		var all []int
		whole[i].Addrs, all = hidden(whole[i].Addrs, addresses...)
		memory = append(memory, all)
	}
	return handed, whole, memory
}

// What is handed in isn't changed, nor what lies behind it; nor is anything told by that.
func TestNothingHandedInIsChanged(t *testing.T) {
	for _, list := range memoryLists() {
		for _, more := range []api.Inode{sized(56, 8), alone(), {Ino: -1}} {
			handed, whole, memory := withHidden(list, more, 9, -1, 4000, 7)
			n := max(plainCount(wide(), list), 4)
			at, wholeAt := hidden(from(1, n+1), 9, -1, 4000)
			wasWhole, wasAt := copied(whole), slices.Clone(wholeAt)
			var wasMemory [][]int
			for _, m := range memory {
				wasMemory = append(wasMemory, slices.Clone(m))
			}
			right, count := Right(wide(), handed), Count(wide(), handed)
			blocks, ok := Build(wide(), handed, at)
			if !sameList(whole, wasWhole) || !slices.Equal(wholeAt, wasAt) || !slices.EqualFunc(memory, wasMemory, slices.Equal[[]int]) {
				t.Errorf("%v: it is changed", short(list))
			}
			if want := plainRight(wide(), list); right != want || ok != want || count != plainCount(wide(), list) {
				t.Errorf("%v: what lies behind it tells: %v, %v, %d", short(list), right, ok, count)
			}
			if ok && !sameBlocks(blocks, plainBuild(list, func(i int) int { return at[i] })) {
				t.Errorf("%v: what lies behind it is built", short(list))
			}
		}
	}
}

// The Source's bytes aren't changed, nor what lies behind them; nor is anything told by that.
func TestNoBytesOfTheSourceAreChanged(t *testing.T) {
	for _, list := range [][]api.Inode{{alone()}, small(), rich()} {
		x := built(t, wide(), list)
		was := make(map[int][]byte)
		whole := make(map[int][]byte)
		for address, b := range x.bytes {
			x.bytes[address], whole[address] = hidden(b, bytes.Repeat([]byte{1, 0, 255}, 30)...)
			was[address] = slices.Clone(whole[address])
		}
		x.loadsAgain()
		for address, b := range whole {
			if !bytes.Equal(b, was[address]) {
				t.Errorf("the bytes at %d are changed: %v", address, b)
			}
			x.bytes[address] = b[:55]
			x.ends(api.ErrCorrupt)
			x.bytes[address] = b[:56]
		}
	}
}

// What Build answers is new memory: no two lists share any, nor with what was handed in, nor with what was answered before.
func TestBuildAnswersNewMemory(t *testing.T) {
	for _, list := range [][]api.Inode{{alone()}, small(), rich(), withRoot(file(9, 0, 0, 5, 0))} {
		handed := copied(list)
		at := from(1, Count(wide(), list)+1)
		first, _ := Build(wide(), handed, at)
		second, _ := Build(wide(), handed, at)
		want := plainBuild(list, func(i int) int { return at[i] })
		if !apart(slices.Concat(ofBlocks(first), ofBlocks(second), ofList(handed), [][2]uintptr{reach(at)})...) {
			t.Errorf("%v: memory is shared", short(list))
		}
		spoilBlocks(first)
		if !sameBlocks(second, want) || !sameList(handed, list) {
			t.Errorf("%v: an answer is another one's", short(list))
		}
		third, _ := Build(wide(), handed, at)
		spoil(handed)
		fill(at, -9)
		if !sameBlocks(second, want) || !sameBlocks(third, want) {
			t.Errorf("%v: kept is what was handed in", short(list))
		}
	}
}

// What Load answers is new memory, too.
func TestLoadAnswersNewMemory(t *testing.T) {
	for _, list := range [][]api.Inode{{alone()}, small(), rich(), withRoot(file(9, 0, 0, 5, 0))} {
		x := built(t, wide(), list)
		want, order := shortened(list), x.order()
		first, firstRead, _ := Load(x.g, x, x.root)
		second, secondRead, _ := Load(x.g, x, x.root)
		all := slices.Concat(ofList(first), ofList(second), [][2]uintptr{reach(firstRead), reach(secondRead)})
		for _, b := range x.bytes {
			all = append(all, reach(b))
		}
		if !apart(all...) {
			t.Errorf("%v: memory is shared", short(list))
		}
		spoil(first)
		fill(firstRead, -9)
		if !sameList(second, want) || !slices.Equal(secondRead, order) {
			t.Errorf("%v: an answer is another one's", short(list))
		}
		x.loadsAgain()
		for _, b := range x.bytes {
			fill(b, 0x55)
		}
		if !sameList(second, want) || !slices.Equal(secondRead, order) {
			t.Errorf("%v: kept is what the Source answered", short(list))
		}
		x.ends(api.ErrCorrupt)
	}
}

// A list is answered whole even if some go on writing behind the end of one of its parts.
func TestAnswersAreWrittenOn(t *testing.T) {
	x := built(t, wide(), rich())
	list, read, _ := Load(x.g, x, x.root)
	for i, n := range list {
		list[i].Addrs = append(n.Addrs, -1)
		list[i].Addrs = list[i].Addrs[:len(n.Addrs)]
	}
	if !sameList(list, shortened(rich())) || !slices.Equal(read, x.order()) {
		t.Error("a node's addresses are another one's")
	}
	blocks, _ := Build(wide(), rich(), from(1, Count(wide(), rich())+1))
	want := plainBuild(rich(), func(i int) int { return i + 1 })
	for i := range blocks {
		_ = append(blocks[i].Data, 9, 9, 9)
	}
	if !sameBlocks(blocks, want) {
		t.Error("a block's bytes are another one's")
	}
}

// Memory that now has something else is answered as that: nothing is remembered by where it is.
func TestNothingIsRemembered(t *testing.T) {
	list := []api.Inode{alone(), sized(2, 56)}
	at := from(1, 6)
	isList(t, wide(), list)
	list[1].Addrs = []int{9}
	isList(t, wide(), list)
	areBlocks(t, wide(), list, at)
	list[1].Addrs[0] = 3777
	noList(t, wide(), list)
	list[1].Addrs[0] = 3776
	at[3] = 77
	areBlocks(t, wide(), list, at)
	at[3] = 0
	areBlocks(t, wide(), list, at)
	list[1].Ino = 57
	noList(t, wide(), list)
	list[1] = only(2, 44, 1)
	isList(t, wide(), list)

	x := built(t, wide(), small())
	x.loadsAgain()
	copy(x.bytes[x.root], twos(21073))
	x.ends(api.ErrCorrupt)
	copy(x.bytes[x.root], twos(21074))
	x.ends(api.ErrCorrupt)
	copy(x.bytes[x.root], twos(21074, x.at(0, 1), x.at(0, 2)))
	x.loadsAgain()
	x.wrong[x.root] = 5
	x.ends(5)
	x.wrong[x.root] = 0
	x.loadsAgain()
}

// What one call answers may be handed to the next ones.
func TestAnswersAreHandedOn(t *testing.T) {
	list := rich()
	for range 5 {
		at := from(1, Count(wide(), list)+1)
		blocks, _ := Build(wide(), list, at)
		d := diskOf(blocks, at)
		got, read, err := Load(wide(), d, at[len(at)-1])
		if err != api.OK || !sameList(got, shortened(rich())) {
			t.Fatal(err)
		}
		areBlocks(t, wide(), got, read)
		list = got
	}
}
