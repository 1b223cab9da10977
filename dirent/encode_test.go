package dirent

import (
	"slices"
	"strings"
	"testing"

	"moraine/api"
)

// No entries have no bytes, also where there are none at all.
func TestEncodeOfNone(t *testing.T) {
	for _, list := range [][]api.Entry{nil, {}, of("a")[:0], make([]api.Entry, 0, 65)} {
		encodes(t, list, nil)
	}
	// One that is empty isn't none.
	encodesNot(t, make([]api.Entry, 1))
}

// The bytes by hand: the number's lower byte ahead of its upper one, the length, the name.
func TestEncodeByHand(t *testing.T) {
	encodes(t, []api.Entry{entry("a", 1)}, []byte{1, 0, 1, 97})
	encodes(t, []api.Entry{entry("a", 56)}, []byte{56, 0, 1, 97})
	encodes(t, []api.Entry{entry("\xff\x80", 10)}, []byte{10, 0, 2, 255, 128})
	encodes(t, []api.Entry{entry("a", 2), entry("ab", 1), entry("b", 2)}, []byte{2, 0, 1, 97, 1, 0, 2, 97, 98, 2, 0, 1, 98})
	encodes(t, []api.Entry{entry("abcdefghijkl", 56)}, append([]byte{56, 0, 12}, "abcdefghijkl"...))
}

// There may be up to 64 entries.
func TestEncodeByCount(t *testing.T) {
	for n := range 65 {
		encodes(t, many(n), plainBytes(many(n)))
	}
	for _, n := range []int{65, 66, 100, 128, 255, 256, 257, 256 + 64, 1000, 1<<16 + 1, 1<<16 + 64} {
		encodesNot(t, many(n))
	}
	encodesNot(t, make([]api.Entry, 64))
	encodesNot(t, make([]api.Entry, 1<<20))
}

// A name has 1 to 12 bytes, at each place.
func TestEncodeByNamesLength(t *testing.T) {
	for _, list := range [][]api.Entry{singles(1), singles(2), singles(3), singles(64)} {
		for at, e := range list {
			for n := range 30 {
				changed := with(list, at, entry(strings.Repeat(e.Name, n), 5))
				if n >= 1 && n <= 12 {
					encodes(t, changed, plainBytes(changed))
				} else {
					encodesNot(t, changed)
				}
			}
			for _, n := range []int{255, 256, 257, 256 + 12, 1<<16 + 1} {
				encodesNot(t, with(list, at, entry(strings.Repeat(e.Name, n), 5)))
			}
		}
	}
}

// Each name alone, and with others on either side.
func TestEncodeOfEachName(t *testing.T) {
	for _, name := range someNames() {
		encodes(t, of(name), plainBytes(of(name)))
	}
	all := of(someNames()...)
	encodes(t, all, plainBytes(all))
	for at := range all {
		encodes(t, all[:at], plainBytes(all[:at]))
		encodes(t, all[at:], plainBytes(all[at:]))
		encodes(t, without(all, at), plainBytes(without(all, at)))
	}
}

// A text that is no name, at each place, whether it would rise there or not.
func TestEncodeWithWhatIsNoName(t *testing.T) {
	for _, none := range noNames() {
		encodesNot(t, of(none))
		for _, list := range [][]api.Entry{of("a", "b"), of("b", "d", "f"), many(8), many(64), of(someNames()...)} {
			for at := range list {
				encodesNot(t, with(list, at, entry(none, 1)))
			}
			if at, _ := plainFind(list, none); len(list) < 64 {
				// Where it rises, it's none for itself alone.
				encodesNot(t, slices.Insert(slices.Clone(list), at, entry(none, 1)))
			}
		}
	}
	encodesNot(t, of(strings.Repeat("a", 1<<20)))
}

// Ino is 1 to 56, at each place.
func TestEncodeByIno(t *testing.T) {
	for _, list := range [][]api.Entry{of("a"), of("a", "b", "c"), many(64)} {
		for at, e := range list {
			for ino := 1; ino <= 56; ino++ {
				changed := with(list, at, entry(e.Name, ino))
				encodes(t, changed, plainBytes(changed))
			}
			for _, ino := range noInos() {
				encodesNot(t, with(list, at, entry(e.Name, ino)))
			}
			for ino := 57; ino < 600; ino++ {
				encodesNot(t, with(list, at, entry(e.Name, ino)))
				encodesNot(t, with(list, at, entry(e.Name, -ino)))
			}
		}
	}
	// The same number twice is no fault.
	encodes(t, []api.Entry{entry("a", 9), entry("b", 9)}, []byte{9, 0, 1, 97, 9, 0, 1, 98})
}

// Names that are alike, or fall, at each place: in front, in the middle, at the end.
func TestEncodeOfNamesThatDoNotRise(t *testing.T) {
	for _, list := range [][]api.Entry{of("a", "b"), of("a", "b", "c"), of("a", "ab", "abc", "b"), of(someNames()...), many(64)} {
		for at := 1; at < len(list); at++ {
			encodesNot(t, with(list, at, entry(list[at-1].Name, 7)))
			encodesNot(t, with(list, at-1, entry(list[at].Name, 7)))
			turned := slices.Clone(list)
			turned[at-1], turned[at] = turned[at], turned[at-1]
			encodesNot(t, turned)
		}
		turned := slices.Clone(list)
		slices.Reverse(turned)
		encodesNot(t, turned)
		// The first one at the end, the last one in front.
		encodesNot(t, append(slices.Clone(list[1:]), list[0]))
		encodesNot(t, append([]api.Entry{list[len(list)-1]}, list[:len(list)-1]...))
	}
	encodesNot(t, []api.Entry{entry("a", 3), entry("a", 3)})
	encodesNot(t, []api.Entry{entry("a", 3), entry("a", 4)})
}

// Each two of some names, and each three of a few: they must rise byte by byte.
func TestEncodeOfEachTwoNames(t *testing.T) {
	for _, a := range someNames() {
		for _, b := range someNames() {
			list := of(a, b)
			if plainBelow(a, b) {
				encodes(t, list, plainBytes(list))
			} else {
				encodesNot(t, list)
			}
			for _, c := range []string{"a", "ab", "b", "\x01", "\xff", "\x80"} {
				list := of(a, b, c)
				if plainBelow(a, b) && plainBelow(b, c) {
					encodes(t, list, plainBytes(list))
				} else {
					encodesNot(t, list)
				}
			}
		}
	}
}

// A name's front is below it; bytes from 128 on are above all others, and small letters above great ones.
func TestEncodeOfNamesByBytes(t *testing.T) {
	for _, names := range [][]string{{"a", "ab"}, {"abcdefghijk", "abcdefghijkl"}, {"\x7f", "\x80"}, {"z", "\xff"}, {"a\x7f", "a\x80"}, {"é", "\xff"}, {"Z", "a"}, {"10", "9"}, {"a", "a\x01"}, {"\uFFFD", "\U0001F600"}, {"\uFFFD", "\xf0"}, {"\xc3\xa9", "\xe9"}} {
		encodes(t, of(names...), plainBytes(of(names...)))
		encodesNot(t, of(names[1], names[0]))
	}
}

// Two faults, in whichever order, don't make up for each other.
func TestEncodeWithMoreThanOneFault(t *testing.T) {
	encodesNot(t, []api.Entry{entry("", 0)})
	encodesNot(t, []api.Entry{entry("b", 0), entry("a", 0)})
	encodesNot(t, []api.Entry{entry("b", 57), entry("a", 57)})
	encodesNot(t, []api.Entry{entry(".", 1), entry("..", 1)})
	encodesNot(t, of(slices.Repeat([]string{"a"}, 65)...))
	encodesNot(t, append(many(65), entry("a", 0)))
}

// Decode of what Encode answers is the entries.
func TestDecodeOfEncode(t *testing.T) {
	lists := [][]api.Entry{nil, singles(64), of(someNames()...)}
	for n := range 65 {
		lists = append(lists, many(n))
	}
	for ino := 1; ino <= 56; ino++ {
		lists = append(lists, []api.Entry{entry("x", ino), entry("y", 57-ino)})
	}
	for _, list := range lists {
		b, ok := Encode(list)
		if !ok {
			t.Errorf("Encode(%v): false", list)
		}
		decodes(t, b, list)
	}
}
