package usage

import (
	"slices"
	"testing"
)

// spoil changes all of a list's memory, its spare room too.
func spoil(list []int) {
	list = list[:cap(list)]
	for i := range list {
		list[i] ^= -1
	}
}

// handed is a list that is handed in, a part of a greater memory, with what that was ahead of the call.
type handed struct{ list, memory, before []int }

// hand is a list with another one's numbers, and more numbers behind its end.
func hand(list ...int) handed {
	memory := append(slices.Clone(list), 3, 1, 2, 3, 0, 1, -1, 60, 1<<40)
	return handed{list: memory[:len(list)], memory: memory, before: slices.Clone(memory)}
}

// asItWas: is a list as it was handed in, and what lies behind it?
func (h handed) asItWas() bool {
	return slices.Equal(h.memory, h.before)
}

// addressLists are lists of addresses: of which there are counts, and not.
func addressLists() [][]int {
	return [][]int{nil, {7}, {7, 7, 0, 3}, {60, 0, 1, 60, 33, 2, 2, 1}, {9, 8, 61, 7}, {5, -1}, {0, 0, 0}, addressesOf(small())}
}

// countLists are lists of counts: fewer than segments, as many, more.
func countLists() [][]int {
	return [][]int{nil, {3}, {2, 0, 3, 4}, {4, 3, 0, 2, 1}, {-1, 1, 1, 0}, ones(12), {5, 4, 3, 2, 1, 0, 1, 2, 3, 4, 5, 0}, append(ones(12), 1, 0, 4)}
}

// takenLists are lists of taken ones: rising, falling, with one twice, with what is no segment.
func takenLists() [][]int {
	return [][]int{nil, {0}, {11, 4, 2, 4}, {-1, 12, 3, 1 << 40, 3}, segsOf(small())}
}

// What is handed in is as it was, in its order, also behind its end, whatever is answered.
func TestNothingHandedInIsChanged(t *testing.T) {
	for _, g := range append(wrong(), small()) {
		for _, list := range addressLists() {
			addresses := hand(list...)
			Count(g, addresses.list)
			if !addresses.asItWas() {
				t.Errorf("Count(%v, %v): it is changed", g, list)
			}
		}
		for _, list := range countLists() {
			for _, some := range takenLists() {
				counts, taken := hand(list...), hand(some...)
				Free(g, counts.list, taken.list)
				Victims(g, counts.list, taken.list)
				Fits(g, counts.list, 1, 2, 3)
				Fits(g, counts.list, -1, 2, 3)
				if !counts.asItWas() || !taken.asItWas() {
					t.Errorf("%v, %v, %v: they are changed", g, list, some)
				}
			}
		}
	}
}

// What Count answers shares no memory with what was handed in, nor with what was answered before, and keeps none.
func TestCountAnswersNewMemory(t *testing.T) {
	g := small()
	for _, list := range addressLists() {
		want, ok := plainCount(g, list)
		if !ok {
			continue
		}
		addresses := hand(list...)
		first, _ := Count(g, addresses.list)
		second, _ := Count(g, addresses.list)
		spoil(first)
		if !slices.Equal(second, want) || !addresses.asItWas() {
			t.Errorf("Count of %v: memory is shared", list)
		}
		counts(t, g, addresses.list, want...)
		spoil(addresses.memory)
		if !slices.Equal(second, want) {
			t.Errorf("Count of %v: the list is shared", list)
		}
		counts(t, g, list, want...)
	}
}

// So with Free and Victims, also of lists that are handed in as both.
func TestSegmentsAreNewMemory(t *testing.T) {
	g := small()
	for name, call := range map[string][2]func(counts, taken []int) []int{
		"Free": {
			func(counts, taken []int) []int { return Free(g, counts, taken) },
			func(counts, taken []int) []int { return plainFree(g, counts, taken) },
		},
		"Victims": {
			func(counts, taken []int) []int { return Victims(g, counts, taken) },
			func(counts, taken []int) []int { return plainVictims(g, counts, taken) },
		},
	} {
		for _, list := range countLists() {
			for _, some := range append(takenLists(), list) {
				counts, taken := hand(list...), hand(some...)
				want := call[1](list, some)
				first, second := call[0](counts.list, taken.list), call[0](counts.list, taken.list)
				spoil(first)
				if !slices.Equal(second, want) || !counts.asItWas() || !taken.asItWas() {
					t.Errorf("%s of %v, %v: memory is shared", name, list, some)
				}
				spoil(counts.memory)
				spoil(taken.memory)
				if !slices.Equal(second, want) || !slices.Equal(call[0](list, some), want) {
					t.Errorf("%s of %v, %v: a list is shared or kept", name, list, some)
				}
				if both := hand(list...); !slices.Equal(call[0](both.list, both.list), call[1](list, list)) || !both.asItWas() {
					t.Errorf("%s of %v as both: not as it should be", name, list)
				}
			}
		}
	}
}

// What one call answers may be handed to the next ones.
func TestAnswersAreHandedOn(t *testing.T) {
	g := small()
	found, ok := Count(g, []int{1, 3, 6, 60, 59, 58, 57, 30, 31})
	if !ok || !slices.Equal(found, []int{2, 1, 0, 0, 0, 1, 1, 0, 0, 0, 0, 4}) {
		t.Fatal(found, ok)
	}
	takes(t, g, found, nil, 1, 5, 6, 0)
	victims := Victims(g, found, nil)
	frees(t, g, found, victims, 2, 3, 4, 7, 8, 9, 10)
	takes(t, g, found, victims)
	free := Free(g, found, victims)
	takes(t, g, found, free, 1, 5, 6, 0)
	frees(t, g, found, free)
	fits(t, true, g, found, 1, 10, 10)
	fits(t, false, g, found, 1, 11, 10)
}
