package scan

import (
	"bytes"
	"slices"
	"testing"

	"moraine/api"
)

// spoil changes all of a list's memory, its spare room too.
func spoil(b []byte) {
	b = b[:cap(b)]
	for i := range b {
		b[i] ^= 0xff
	}
}

// What GetSummary is handed is as it was, also behind its end, whatever it answers.
func TestGetSummaryChangesNothing(t *testing.T) {
	for _, first := range []int{21331, 7} {
		for n := range 90 {
			memory := append(plainly(first, 3, 2, 4, 17), bytes.Repeat([]byte{9}, 60)...)
			before := bytes.Clone(memory)
			b := api.Block{Owner: 65535, Data: memory[:n]}
			GetSummary(small(), b)
			GetSummary(api.Geometry{}, b)
			if !bytes.Equal(memory, before) {
				t.Errorf("%d bytes: they are changed", n)
			}
		}
	}
}

// What PutSummary answers may be written over: the next answer is as it should be.
func TestPutSummaryAnswersNewMemory(t *testing.T) {
	s := api.Summary{Count: 3, Index: 2, Blocks: 4, Root: 17}
	b, _ := PutSummary(small(), s)
	c, _ := PutSummary(small(), s)
	spoil(b.Data)
	if !same(c, plain(s)) {
		t.Error("two answers share memory")
	}
	puts(t, small(), s)
	spoil(c.Data)
	puts(t, small(), s)
}

// What Look answers may be written over, and Look changes nothing on the rack, whether that lasts or not.
func TestLookAnswersNewMemoryAndChangesNothing(t *testing.T) {
	for _, m := range members(small()) {
		for _, lost := range [][]int{nil, {0}, {2}, {4}, {1, 3}} {
			a := open(t, small(), m)
			a.lays(t, 1, 8, alone(3))
			is(t, "Flush", a.b.Flush(), api.OK)
			a.lays(t, 2, 9, alone(4))
			a.puts(t, 4, 20, raw(11, api.Block{}))
			a.lose(t, lost...)
			before := a.all(t)
			first, most, _ := Look(a.b)
			want := slices.Clone(first)
			for i := range first[:cap(first)] {
				first[:cap(first)][i] = api.Info{Seg: -1, Seq: -1}
			}
			a.looks(t, most, want...)
			if !slices.EqualFunc(a.all(t), before, bytes.Equal) || a.b.Member() != m {
				t.Errorf("%v, lost %v: the rack has changed", m, lost)
			}
		}
	}
}

// all: each sector of a rack as it is read, and as it lasts, none for what can't be read.
func (a *array) all(t *testing.T) [][]byte {
	t.Helper()
	var out [][]byte
	for disk := range a.g.Disks + 1 {
		for n := range 5 + a.g.Segs*a.g.Rows {
			data, _ := a.r.Read(disk, n)
			last, err := a.r.Lasting(disk, n)
			is(t, "Lasting", err, api.OK)
			out = append(out, data, last)
		}
	}
	return out
}

// The list that Groups is handed is as it was, in its order, also behind its end.
func TestGroupsChangesNothing(t *testing.T) {
	for n := range 13 {
		memory := slices.Concat(infos(9, 3), infos(3, 2), infos(9, 3)[:2], infos(7, 5))
		slices.Reverse(memory)
		before := slices.Clone(memory)
		Groups(memory[:n:n])
		Groups(memory[:n])
		if !slices.Equal(memory, before) {
			t.Errorf("%d infos: they are changed", n)
		}
	}
}

// What Groups answers is neither shared with the list, nor among its groups, nor kept.
func TestGroupsAnswersNewMemory(t *testing.T) {
	list := slices.Concat(infos(9, 3), infos(3, 2), infos(20, 1), infos(7, 5), infos(30, 64))
	want := []api.Group{group(3, 2), group(7, 5), group(9, 3), group(20, 1), group(30, 64)}
	before := slices.Clone(list)
	for i := range want {
		got := Groups(list)
		segs := got[i].Segs[:cap(got[i].Segs)]
		for j := range segs {
			segs[j] = -1
		}
		for j, g := range got {
			if j != i && !alike(g, want[j]) {
				t.Errorf("groups %d and %d share memory", i, j)
			}
		}
		for j := range got[:cap(got)] {
			got[:cap(got)][j] = api.Group{}
		}
		if !slices.Equal(list, before) {
			t.Error("the list is shared")
		}
		isGroups(t, list, want...)
	}
	got := Groups(list)
	clear(list)
	if !slices.EqualFunc(got, want, alike) {
		t.Error("the list is kept")
	}
}
