package dirent

import (
	"slices"
	"strings"
	"testing"

	"moraine/api"
)

// From no entries nothing goes.
func TestCutFromNone(t *testing.T) {
	for _, name := range someTexts() {
		for _, none := range [][]api.Entry{nil, {}, of("a", "b")[:0], make([]api.Entry, 0, 9)} {
			cuts(t, none, name, nil)
		}
	}
}

// Lists by hand: the first, one in the middle, the last, the only one, one that isn't there.
func TestCutByHand(t *testing.T) {
	list := []api.Entry{entry("b", 1), entry("d", 2), entry("f", 3)}
	cuts(t, list, "b", []api.Entry{entry("d", 2), entry("f", 3)})
	cuts(t, list, "d", []api.Entry{entry("b", 1), entry("f", 3)})
	cuts(t, list, "f", []api.Entry{entry("b", 1), entry("d", 2)})
	for _, name := range []string{"", "a", "c", "e", "g", "B", "bb", "b\x00", "bd", "\xff", "/b", strings.Repeat("b", 1<<20)} {
		cuts(t, list, name, list)
	}
	cuts(t, of("d"), "d", nil)
	cuts(t, of("ab"), "a", of("ab"))
	cuts(t, of("a"), "ab", of("a"))
	cuts(t, of(""), "", nil)
	cuts(t, of("", "a"), "", []api.Entry{entry("a", 8)})
}

// Each entry of each list.
func TestCutOfEachEntry(t *testing.T) {
	for _, list := range risingLists() {
		for at, e := range list {
			cuts(t, list, e.Name, without(list, at))
			cuts(t, without(list, at), e.Name, without(list, at))
			cuts(t, list[:at], e.Name, list[:at])
			cuts(t, list[at:], e.Name, list[at+1:])
		}
	}
}

// Each text, a name or none, from each list, against the plainest way.
func TestCutOfEachText(t *testing.T) {
	for _, list := range risingLists() {
		for _, name := range someTexts() {
			cuts(t, list, name, plainCut(list, name))
		}
	}
}

// Entries of the same number stay, and numbers stay as they are.
func TestCutWhateverTheNumbers(t *testing.T) {
	for _, ino := range append(noInos(), 1, 56) {
		list := []api.Entry{entry("a", ino), entry("b", ino), entry("c", ino)}
		cuts(t, list, "b", []api.Entry{entry("a", ino), entry("c", ino)})
		cuts(t, list, "a", []api.Entry{entry("b", ino), entry("c", ino)})
		cuts(t, list, "d", list)
	}
}

// Names cut in whatever order leave none: here all orders of five; what was cut isn't found, all else is.
func TestCutInWhateverOrder(t *testing.T) {
	full := of("a", "ab", "b", "c", "\xff")
	orders(full, func(order []api.Entry) {
		list := full
		for i, e := range order {
			list = Cut(list, e.Name)
			for _, gone := range order[:i+1] {
				if _, has := Find(list, gone.Name); has {
					t.Errorf("%v is found in %v", gone, list)
				}
			}
			for _, there := range order[i+1:] {
				if at, has := Find(list, there.Name); !has || list[at] != there {
					t.Errorf("%v isn't found in %v", there, list)
				}
			}
			if len(list) != len(order)-i-1 {
				t.Errorf("%v: %d entries", order, len(list))
			}
		}
	})
}

// What was put and cut again leaves the list as it was; what was cut and put again, too.
func TestCutOfPut(t *testing.T) {
	for _, list := range risingLists() {
		for _, name := range someTexts() {
			if _, has := plainFind(list, name); !has {
				cuts(t, Put(list, entry(name, 8)), name, list)
			}
		}
		for _, e := range list {
			puts(t, Cut(list, e.Name), e, list)
		}
	}
	list := many(64)
	for at, e := range list {
		if put := Put(Cut(list, e.Name), entry("zz", 2)); !slices.Equal(put, append(without(list, at), entry("zz", 2))) {
			t.Errorf("without %q: %v", e.Name, put)
		}
	}
}
