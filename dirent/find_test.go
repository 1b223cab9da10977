package dirent

import (
	"slices"
	"strings"
	"testing"

	"moraine/api"
)

// risingLists are lists whose names rise; in some of them there are texts that are no names, numbers that no entry has, or too many entries.
func risingLists() [][]api.Entry {
	return [][]api.Entry{
		nil, of("m"), of("b", "d"), of("a", "b", "c"), of("a", "ab", "abc", "b"), of("\x80", "\xff"), of(someNames()...), many(8), many(64), many(65), many(200), singles(64),
		of(""), of("", "a"), of("", ".", "..", "/", "a/b"), of(someTexts()...), of(strings.Repeat("a", 13), strings.Repeat("a", 300)),
		{entry("a", 0), entry("b", -1), entry("c", 1<<63-1), entry("d", -1<<63), entry("e", 57)},
	}
}

// Among no entries there is no name: the place is 0, the list's length.
func TestFindAmongNone(t *testing.T) {
	for _, name := range someTexts() {
		finds(t, nil, name, 0, false)
		finds(t, []api.Entry{}, name, 0, false)
		finds(t, of("a", "b")[:0], name, 0, false)
	}
}

// Places by hand.
func TestFindByHand(t *testing.T) {
	list := of("b", "d", "f")
	finds(t, list, "a", 0, false)
	finds(t, list, "b", 0, true)
	finds(t, list, "c", 1, false)
	finds(t, list, "d", 1, true)
	finds(t, list, "e", 2, false)
	finds(t, list, "f", 2, true)
	finds(t, list, "g", 3, false)
	finds(t, list, "", 0, false)
	finds(t, list, "ba", 1, false)
	finds(t, list, "B", 0, false)
	finds(t, list, "\xff", 3, false)
	finds(t, of("ab"), "a", 0, false)
	finds(t, of("a"), "ab", 1, false)
}

// Each entry's own name is found at its place; what is just above it, behind it.
func TestFindEachEntry(t *testing.T) {
	for _, list := range risingLists() {
		for at, e := range list {
			finds(t, list, e.Name, at, true)
			above := e.Name + "\x00"
			if _, has := plainFind(list, above); !has {
				finds(t, list, above, at+1, false)
			}
			finds(t, without(list, at), e.Name, at, false)
			finds(t, list[:at], e.Name, at, false)
			finds(t, list[at:], e.Name, 0, true)
			finds(t, list[at+1:], e.Name, 0, false)
		}
	}
}

// A name below all, above all, and between each two.
func TestFindBetween(t *testing.T) {
	list := many(64)
	finds(t, list, "a", 0, false)
	finds(t, list, "", 0, false)
	finds(t, list, "z", 64, false)
	finds(t, list, "\xff", 64, false)
	for at, e := range list {
		finds(t, list, e.Name+"z", at+1, false)
		last := len(e.Name) - 1
		finds(t, list, e.Name[:last]+string([]byte{e.Name[last] - 1, 'y'}), at, false)
	}
}

// Each text, a name or none, in each list, against the plainest way.
func TestFindEachText(t *testing.T) {
	for _, list := range risingLists() {
		for _, name := range someTexts() {
			at, has := plainFind(list, name)
			finds(t, list, name, at, has)
		}
	}
}

// Texts are held against each other byte by byte: bytes from 128 on are above all others.
func TestFindByBytes(t *testing.T) {
	finds(t, of("a", "\xff"), "\x80", 1, false)
	finds(t, of("a", "\x80"), "z", 1, false)
	finds(t, of("a", "é"), "\xe9", 2, false)
	finds(t, of("a", "\xff"), "é", 1, false)
	finds(t, of("\uFFFD"), "\U0001F600", 1, false)
	finds(t, of("\uFFFD"), "\xff", 1, false)
	finds(t, of("\xff"), "\uFFFD", 0, false)
	finds(t, of("10", "9"), "8", 1, false)
}

// Numbers don't matter for Find, whichever they are.
func TestFindWhateverTheNumbers(t *testing.T) {
	for _, ino := range append(noInos(), 1, 56) {
		list := []api.Entry{entry("a", ino), entry("c", 1), entry("e", ino)}
		for i, name := range []string{"", "a", "b", "c", "d", "e", "f"} {
			finds(t, list, name, i/2, i%2 == 1)
		}
	}
}

// Of very many entries, and of a very long name.
func TestFindAmongVeryMany(t *testing.T) {
	list := many(20000)
	for _, at := range []int{0, 1, 63, 64, 65, 9999, 19998, 19999} {
		finds(t, list, list[at].Name, at, true)
		finds(t, list, list[at].Name+"\x00", at+1, false)
	}
	long := strings.Repeat("a", 1<<20)
	finds(t, of("a", "b"), long, 1, false)
	finds(t, of("a", long, "b"), long, 1, true)
	finds(t, of("a", long, "b"), long+"a", 2, false)
}

// Lists whose names don't rise aren't promised an answer; but there is one, and a place that there is, or the length.
func TestListsThatDoNotRise(t *testing.T) {
	for _, list := range [][]api.Entry{of("b", "a"), of("a", "a"), of("c", "a", "b", "a"), make([]api.Entry, 300), of(slices.Repeat([]string{"x"}, 100)...)} {
		for _, name := range someTexts() {
			at, has := Find(list, name)
			again, hasAgain := Find(list, name)
			if at < 0 || at > len(list) || has && list[at].Name != name || at != again || has != hasAgain {
				t.Errorf("Find(%v, %q): %d, %v, then %d, %v", shortList(list), name, at, has, again, hasAgain)
			}
			if put := Put(list, entry(name, 1)); !slices.Equal(put, Put(list, entry(name, 1))) {
				t.Errorf("Put(%v, %q): %v, then others", shortList(list), name, put)
			}
			if cut := Cut(list, name); !slices.Equal(cut, Cut(list, name)) {
				t.Errorf("Cut(%v, %q): %v, then others", shortList(list), name, cut)
			}
		}
	}
}
