package dirent

import (
	"slices"
	"testing"

	"moraine/api"
)

// Put into no entries makes one.
func TestPutIntoNone(t *testing.T) {
	for _, name := range someTexts() {
		for _, none := range [][]api.Entry{nil, {}, of("a", "b")[:0], make([]api.Entry, 0, 9)} {
			puts(t, none, entry(name, 3), []api.Entry{entry(name, 3)})
		}
	}
	puts(t, nil, api.Entry{}, make([]api.Entry, 1))
}

// Lists by hand: in front, between, behind, and in the place of one.
func TestPutByHand(t *testing.T) {
	list := []api.Entry{entry("b", 1), entry("d", 2)}
	puts(t, list, entry("a", 9), []api.Entry{entry("a", 9), entry("b", 1), entry("d", 2)})
	puts(t, list, entry("b", 9), []api.Entry{entry("b", 9), entry("d", 2)})
	puts(t, list, entry("c", 9), []api.Entry{entry("b", 1), entry("c", 9), entry("d", 2)})
	puts(t, list, entry("d", 9), []api.Entry{entry("b", 1), entry("d", 9)})
	puts(t, list, entry("e", 9), []api.Entry{entry("b", 1), entry("d", 2), entry("e", 9)})
	puts(t, list, entry("ba", 9), []api.Entry{entry("b", 1), entry("ba", 9), entry("d", 2)})
	puts(t, list, entry("", 9), []api.Entry{entry("", 9), entry("b", 1), entry("d", 2)})
	puts(t, list, entry("\xff", 9), []api.Entry{entry("b", 1), entry("d", 2), entry("\xff", 9)})
	puts(t, of("ab"), entry("a", 9), []api.Entry{entry("a", 9), entry("ab", 1)})
	// The very entry that is there already changes nothing.
	puts(t, list, entry("d", 2), list)
}

// In the place of each entry; and each entry where it was left out.
func TestPutOfEachEntry(t *testing.T) {
	for _, list := range risingLists() {
		for at, e := range list {
			puts(t, list, e, list)
			for _, ino := range []int{1, 56, 0, -1, 57, 1 << 62} {
				puts(t, list, entry(e.Name, ino), with(list, at, entry(e.Name, ino)))
			}
			puts(t, without(list, at), e, list)
			puts(t, list[:at], e, list[:at+1])
			puts(t, list[at+1:], e, list[at:])
		}
	}
}

// Each text, a name or none, in each list, against the plainest way; the names rise still.
func TestPutOfEachText(t *testing.T) {
	for _, list := range risingLists() {
		for _, name := range someTexts() {
			want := plainPut(list, entry(name, 8))
			puts(t, list, entry(name, 8), want)
			for i := 1; i < len(want); i++ {
				if !plainBelow(want[i-1].Name, want[i].Name) {
					t.Errorf("%v: it doesn't rise", want)
				}
			}
		}
	}
}

// Into 64 entries there goes one more, which then are too many; or it takes the place of one.
func TestPutIntoAFullDirectory(t *testing.T) {
	for _, list := range [][]api.Entry{many(64), singles(64)} {
		for _, name := range []string{"!", "f1000031x", "Mx", "\xff"} {
			put := Put(list, entry(name, 5))
			if len(put) != 65 {
				t.Errorf("Put of %q: %d entries", name, len(put))
			}
			puts(t, list, entry(name, 5), plainPut(list, entry(name, 5)))
			encodesNot(t, put)
		}
		for at, e := range list {
			put := Put(list, entry(e.Name, 56))
			want := with(list, at, entry(e.Name, 56))
			if !slices.Equal(put, want) {
				t.Errorf("Put of %q: %v", e.Name, put)
			}
			encodes(t, put, plainBytes(want))
		}
	}
}

// All numbers are put as they are.
func TestPutOfEachNumber(t *testing.T) {
	for _, ino := range append(noInos(), 1, 2, 56) {
		puts(t, of("a", "c"), entry("b", ino), []api.Entry{entry("a", 1), entry("b", ino), entry("c", 8)})
		puts(t, of("a", "c"), entry("a", ino), []api.Entry{entry("a", ino), entry("c", 8)})
	}
}

// Names put in whatever order make one list: here all orders of five, and of many some orders.
func TestPutInWhateverOrder(t *testing.T) {
	want := of("a", "ab", "b", "c", "\xff")
	orders(want, func(order []api.Entry) {
		var list []api.Entry
		for i, e := range order {
			list = Put(list, e)
			for _, there := range order[:i+1] {
				if at, has := Find(list, there.Name); !has || list[at] != there {
					t.Errorf("%v isn't found in %v", there, list)
				}
			}
			for _, not := range order[i+1:] {
				if _, has := Find(list, not.Name); has {
					t.Errorf("%v is found in %v", not, list)
				}
			}
		}
		if !slices.Equal(list, want) {
			t.Errorf("%v: %v", order, list)
		}
	})
	for _, full := range [][]api.Entry{many(64), singles(64), of(someNames()...)} {
		for step := 1; step < len(full); step++ {
			var list []api.Entry
			for i := range full {
				// Each way round, so that with a step that has a factor of the length all are there in the end.
				list = Put(list, full[(i*step)%len(full)])
			}
			for _, e := range full {
				list = Put(list, e)
			}
			if !slices.Equal(list, full) {
				t.Errorf("by steps of %d: %v", step, list)
			}
		}
	}
}

// orders hands out each order of a list.
func orders(list []api.Entry, each func([]api.Entry)) {
	if len(list) == 0 {
		each(nil)
	}
	for at, e := range list {
		orders(without(list, at), func(rest []api.Entry) {
			each(append([]api.Entry{e}, rest...))
		})
	}
}
