package path

import (
	"slices"
	"strings"
	"testing"

	"moraine/api"
)

// Of no names the path is "/", also of none at all.
func TestJoinWithoutNames(t *testing.T) {
	for _, names := range [][]string{nil, {}, letters(8)[:0], make([]string, 0, 9)} {
		if got, err := Join(names); got != "/" || err != api.OK {
			t.Errorf("Join(%#v): %q, %d", names, got, err)
		}
	}
	// One without a byte is no name.
	joinsNot(t, "")
	joinsNot(t, "", "")
}

// A path has up to 8 names.
func TestJoinByDepth(t *testing.T) {
	joins(t, "/a", "a")
	joins(t, "/a/b", "a", "b")
	joins(t, "/a/b/c/d/e/f/g/h", "a", "b", "c", "d", "e", "f", "g", "h")
	joinsNot(t, "a", "b", "c", "d", "e", "f", "g", "h", "i")
	for n := 1; n <= 8; n++ {
		joins(t, textOf(letters(n)...), letters(n)...)
	}
	for _, n := range []int{9, 10, 16, 17, 255, 256, 257, 264, 1<<16 + 1, 1 << 20} {
		joinsNot(t, letters(n)...)
	}
}

// Names stay as they are, and in their order, be they rising or not, alike or not.
func TestJoinOfEachName(t *testing.T) {
	for _, name := range someNames() {
		for n := 1; n <= 8; n++ {
			for at := range n {
				names := with(letters(n), at, name)
				joins(t, textOf(names...), names...)
			}
			joins(t, strings.Repeat("/"+name, n), slices.Repeat([]string{name}, n)...)
		}
		joinsNot(t, slices.Repeat([]string{name}, 9)...)
	}
	joins(t, "/c/a/b/a", "c", "a", "b", "a")
	joins(t, "/abcdefghijkl/a/abcdefghijkl", "abcdefghijkl", "a", "abcdefghijkl")
}

// What is no name, at each place, makes no path, also one that with its "/" would read as one, and be there too many names besides or not.
func TestJoinWithWhatIsNoName(t *testing.T) {
	for _, none := range slices.Concat(noNames(), slashed()) {
		for n := 1; n <= 10; n++ {
			for at := range n {
				joinsNot(t, with(letters(n), at, none)...)
			}
			joinsNot(t, slices.Repeat([]string{none}, n)...)
		}
	}
	joinsNot(t, strings.Repeat("a", 1<<20))
	joinsNot(t, "a", strings.Repeat("/a", 1<<20))
	joinsNot(t, slices.Repeat([]string{""}, 1<<16)...)
}

// All lists of up to three of some texts, against the plainest way.
func TestJoinOfShortLists(t *testing.T) {
	lists := [][]string{nil}
	for range 3 {
		for _, list := range lists {
			for _, s := range []string{"a", "b", "...", "\xff", "", ".", "..", "/", "a/b", "\x00", "abcdefghijkl", "abcdefghijklm"} {
				lists = append(lists, append(slices.Clone(list), s))
			}
		}
	}
	for _, list := range lists {
		if want, err := plainJoin(list); err == api.OK {
			joins(t, want, list...)
		} else {
			joinsNot(t, list...)
		}
	}
}

// Split of what Join answers is the names.
func TestSplitOfJoin(t *testing.T) {
	for n := range 9 {
		for _, name := range someNames() {
			for at := range n {
				names := with(letters(n), at, name)
				path, err := Join(names)
				if err != api.OK {
					t.Errorf("Join(%q): %d", names, err)
				}
				splits(t, path, names...)
			}
		}
		path, _ := Join(letters(n))
		splits(t, path, letters(n)...)
	}
}
