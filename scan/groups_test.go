package scan

import (
	"cmp"
	"math"
	"slices"
	"testing"

	"moraine/api"
)

// info is one of a group that begins with first; its segment and its root tell which one it is.
func info(first, count, i int) api.Info {
	return api.Info{Seg: 10*count + i, Seq: first + i, Summary: api.Summary{Count: count, Index: i, Blocks: i, Root: 100*count + i}}
}

// infos are all of a group.
func infos(first, count int) []api.Info {
	var list []api.Info
	for i := range count {
		list = append(list, info(first, count, i))
	}
	return list
}

// group is what infos tell.
func group(first, count int) api.Group {
	g := api.Group{Seq: first, Root: 100*count + count - 1}
	for i := range count {
		g.Segs = append(g.Segs, 10*count+i)
	}
	return g
}

// alike: are two groups alike?
func alike(a, b api.Group) bool {
	return a.Seq == b.Seq && a.Root == b.Root && slices.Equal(a.Segs, b.Segs)
}

// isGroups holds what Groups answers against groups.
func isGroups(t *testing.T, list []api.Info, want ...api.Group) {
	t.Helper()
	if got := Groups(list); !slices.EqualFunc(got, want, alike) {
		t.Errorf("Groups(%v): %v, not %v", list, got, want)
	}
}

// everyOrder holds what Groups answers of a list in each order against groups.
func everyOrder(t *testing.T, list []api.Info, want ...api.Group) {
	t.Helper()
	orders(slices.Clone(list), 0, func(list []api.Info) {
		isGroups(t, list, want...)
	})
}

// orders goes over the orders of all of a list from a place on.
func orders(list []api.Info, from int, do func([]api.Info)) {
	if from >= len(list)-1 {
		do(list)
		return
	}
	for i := from; i < len(list); i++ {
		list[from], list[i] = list[i], list[from]
		orders(list, from+1, do)
		list[from], list[i] = list[i], list[from]
	}
}

func TestGroupsOfNone(t *testing.T) {
	isGroups(t, nil)
	isGroups(t, []api.Info{})
	isGroups(t, make([]api.Info, 3))
}

func TestGroupsOfOne(t *testing.T) {
	isGroups(t, infos(7, 1), group(7, 1))
	isGroups(t, infos(0, 1), group(0, 1))
	isGroups(t, infos(7, 2)[:1])
	isGroups(t, infos(7, 2)[1:])
}

// Groups of each Count, in order, backwards, and turned round.
func TestGroupsOfEachCount(t *testing.T) {
	for count := 1; count <= 64; count++ {
		list := infos(9, count)
		isGroups(t, list, group(9, count))
		slices.Reverse(list)
		isGroups(t, list, group(9, count))
		isGroups(t, append(slices.Clone(list[count/2:]), list[:count/2]...), group(9, count))
	}
}

// A group that lacks one, whichever.
func TestGroupsThatLackOne(t *testing.T) {
	for count := 1; count <= 64; count++ {
		for i := range count {
			isGroups(t, slices.Delete(infos(9, count), i, i+1))
		}
	}
	for i := range 4 {
		list := append(slices.Delete(infos(9, 4), i, i+1), info(20, 1, 0))
		everyOrder(t, list, group(20, 1))
	}
}

// Short lists in each order.
func TestGroupsInEachOrder(t *testing.T) {
	everyOrder(t, infos(7, 6), group(7, 6))
	everyOrder(t, slices.Concat(infos(7, 3), infos(10, 1), infos(11, 2)), group(7, 3), group(10, 1), group(11, 2))
	everyOrder(t, slices.Concat(infos(7, 2), infos(3, 2), infos(100, 2)), group(3, 2), group(7, 2), group(100, 2))
	everyOrder(t, slices.Concat(infos(7, 3), infos(5, 4)[1:]), group(7, 3))
}

// Groups of one first Seq come by rising Count; none of them takes the other's infos.
func TestGroupsOfOneSeq(t *testing.T) {
	everyOrder(t, slices.Concat(infos(7, 3), infos(7, 1), infos(7, 2)), group(7, 1), group(7, 2), group(7, 3))
	everyOrder(t, slices.Concat(infos(7, 3), infos(7, 2)[:1], infos(6, 2)), group(6, 2), group(7, 3))
	// Of each Index there is one, but not of one Count.
	everyOrder(t, []api.Info{info(7, 2, 0), info(7, 3, 1)})
	everyOrder(t, []api.Info{info(7, 3, 0), info(7, 3, 1), info(7, 4, 2)})
	// Of each Index there is one, of one Count, but their Seqs don't rise by 1.
	everyOrder(t, []api.Info{info(7, 2, 0), info(8, 2, 1)})
	everyOrder(t, []api.Info{info(7, 2, 0), info(6, 2, 1)})
	everyOrder(t, []api.Info{info(7, 3, 0), info(7, 3, 1), info(9, 3, 2)})
	// Their Seqs rise by 1, but their Indices don't.
	everyOrder(t, []api.Info{info(7, 2, 0), info(8, 2, 0)})
}

// Many groups are told by rising Seq, then Count, whatever their order in the list.
func TestGroupsOfMany(t *testing.T) {
	var list []api.Info
	var want []api.Group
	for first := range 40 {
		for count := 1; count <= 5; count++ {
			list = append(list, infos(3*first, count)...)
			want = append(want, group(3*first, count))
		}
	}
	// Steps that have no divisor in common with the list's length come by each of it once.
	for _, step := range []int{1, 7, 11, 253, 301, len(list) - 1} {
		turned := make([]api.Info, len(list))
		for i := range list {
			turned[i] = list[i*step%len(list)]
		}
		isGroups(t, turned, want...)
	}
}

// Two infos of one Index, whichever, are none of it: alike, of other Segs, of another root; so are three and four.
func TestGroupsWithTwoOfOneIndex(t *testing.T) {
	for i := range 3 {
		other := info(7, 3, i)
		other.Seg++
		third := info(7, 3, i)
		third.Root++
		fourth := info(7, 3, i)
		fourth.Blocks++
		everyOrder(t, append(infos(7, 3), info(7, 3, i)))
		for _, more := range [][]api.Info{{other}, {third}, {fourth}, {other, other}, {other, third}} {
			everyOrder(t, append(infos(7, 3), more...))
		}
		everyOrder(t, append(infos(7, 3), other, third, fourth))
		// The other one stands in for one that lacks.
		lacks := slices.Delete(infos(7, 3), (i+1)%3, (i+1)%3+1)
		everyOrder(t, append(lacks, other))
		// Of the list's other groups nothing is lost.
		everyOrder(t, append(infos(7, 3), other, info(7, 1, 0)), group(7, 1))
		everyOrder(t, append(infos(7, 3), other, info(6, 1, 0)), group(6, 1))
	}
	everyOrder(t, []api.Info{info(7, 1, 0), info(7, 1, 0)})
	everyOrder(t, []api.Info{info(7, 1, 0), info(7, 1, 0), info(7, 1, 0)})
}

// A Seq less Index below 0 begins no group; 0 does.
func TestGroupsOfSeqsBelowNought(t *testing.T) {
	for first := -5; first <= 2; first++ {
		for count := 1; count <= 6; count++ {
			if first < 0 {
				isGroups(t, infos(first, count))
			} else {
				isGroups(t, infos(first, count), group(first, count))
			}
		}
	}
	everyOrder(t, slices.Concat(infos(-1, 2), infos(0, 2)), group(0, 2))
	// What is less than the least number isn't a great one.
	for _, first := range []int{math.MinInt, math.MinInt + 1, -(1 << 32), -65536} {
		isGroups(t, infos(first, 3))
	}
	wraps := []api.Info{
		{Seq: math.MinInt, Summary: api.Summary{Count: 2, Index: 1}},
		{Seq: math.MaxInt, Summary: api.Summary{Count: 2, Index: 0}},
	}
	everyOrder(t, wraps)
	everyOrder(t, append(wraps, info(5, 2, 0), info(5, 2, 1)), group(5, 2))
}

// The greatest Seqs.
func TestGroupsOfGreatSeqs(t *testing.T) {
	for _, first := range []int{math.MaxInt - 2, 1<<32 - 1, 1 << 32, 1<<63 - 4} {
		everyOrder(t, infos(first, 3), group(first, 3))
	}
	isGroups(t, infos(math.MaxInt, 1), group(math.MaxInt, 1))
	everyOrder(t, []api.Info{info(math.MaxInt, 1, 0), info(0, 1, 0), info(1<<32, 1, 0), info(1, 1, 0)}, group(0, 1), group(1, 1), group(1<<32, 1), group(math.MaxInt, 1))
}

// Counts and Indices that no segment has: they are of no group, and take nothing from those of the list.
func TestGroupsOfStrangeNumbers(t *testing.T) {
	for _, n := range append(strange(), 0) {
		for _, x := range []api.Info{
			{Seg: 1, Seq: 7, Summary: api.Summary{Count: n, Root: 4}},
			{Seg: 1, Seq: 7, Summary: api.Summary{Count: n, Index: n, Root: 4}},
			{Seg: 1, Seq: n, Summary: api.Summary{Count: n, Index: n, Root: 4}},
			{Seg: 1, Seq: n, Summary: api.Summary{Count: 2, Index: n, Root: 4}},
			{Seg: 1, Seq: n, Summary: api.Summary{Count: n, Index: n - 1, Root: 4}},
			{Seg: 1, Seq: 7, Summary: api.Summary{Count: n, Index: n - 1, Root: 4}},
		} {
			if x.Index == 0 && x.Count == 1 {
				continue
			}
			isGroups(t, []api.Info{x})
			everyOrder(t, append(infos(7, 2), x), group(7, 2))
		}
	}
	// One behind the group's last, one ahead of its first.
	everyOrder(t, append(infos(7, 2), info(7, 2, 2)), group(7, 2))
	everyOrder(t, append(infos(7, 2), info(7, 2, -1)), group(7, 2))
	everyOrder(t, []api.Info{info(7, 2, 1), info(7, 2, 2)})
	everyOrder(t, []api.Info{info(7, 2, -1), info(7, 2, 0)})
}

// Segments, Blocks and Roots are as told, whatever they are: also no segments, one that is there twice, roots of others than the last.
func TestGroupsTellWhatIsThere(t *testing.T) {
	list := []api.Info{
		{Seg: -4, Seq: 7, Summary: api.Summary{Count: 3, Index: 0, Blocks: -1, Root: 55}},
		{Seg: math.MaxInt, Seq: 8, Summary: api.Summary{Count: 3, Index: 1, Blocks: 1 << 40, Root: -7}},
		{Seg: -4, Seq: 9, Summary: api.Summary{Count: 3, Index: 2, Root: math.MinInt}},
	}
	everyOrder(t, list, api.Group{Seq: 7, Root: math.MinInt, Segs: []int{-4, math.MaxInt, -4}})
	list[2].Root = 0
	everyOrder(t, list, api.Group{Seq: 7, Segs: []int{-4, math.MaxInt, -4}})
}

// plainGroups: the groups of a list, by the plainest means: each one that an info could be of is asked for each of its segments.
func plainGroups(list []api.Info) []api.Group {
	var out []api.Group
	asked := make(map[[2]int]int)
	for _, x := range list {
		first, count := x.Seq-x.Index, x.Count
		asked[[2]int{first, count}]++
		if first < 0 || count < 1 || asked[[2]int{first, count}] > 1 {
			continue
		}
		g := api.Group{Seq: first}
		for i := range count {
			n := 0
			for _, y := range list {
				if y.Seq == first+i && y.Index == i && y.Count == count {
					n++
					g.Segs, g.Root = append(g.Segs, y.Seg), y.Root
				}
			}
			if n != 1 {
				g.Segs = nil
				break
			}
		}
		if len(g.Segs) > 0 {
			out = append(out, g)
		}
	}
	slices.SortFunc(out, func(a, b api.Group) int {
		return cmp.Or(cmp.Compare(a.Seq, b.Seq), cmp.Compare(len(a.Segs), len(b.Segs)))
	})
	return out
}

// All lists of up to 3 infos of small numbers, and long lists by a fixed rule: each has the groups that the plainest way finds.
func TestGroupsOfManyLists(t *testing.T) {
	var all []api.Info
	for seq := 3; seq < 6; seq++ {
		for count := 1; count < 4; count++ {
			for i := range count {
				all = append(all, api.Info{Seg: len(all), Seq: seq, Summary: api.Summary{Count: count, Index: i, Root: len(all) + 50}})
			}
		}
	}
	for n := range len(all) * len(all) * len(all) {
		list := []api.Info{all[n%len(all)], all[n/len(all)%len(all)], all[n/len(all)/len(all)]}
		for m := range 4 {
			isGroups(t, list[:m], plainGroups(list[:m])...)
		}
	}
	w := &walk{state: 5}
	whole := 0
	for range 50000 {
		var list []api.Info
		for range w.below(20) {
			list = append(list, api.Info{Seg: w.below(16), Seq: w.below(7) - 2, Summary: api.Summary{Count: w.below(4), Index: w.below(4), Root: w.below(9)}})
		}
		want := plainGroups(list)
		isGroups(t, list, want...)
		for _, g := range want {
			if len(g.Segs) > 1 {
				whole++
			}
		}
	}
	if whole < 1000 {
		t.Errorf("the long lists have %d groups of several", whole)
	}
}
