package dirent

import (
	"bytes"
	"slices"
	"strings"
	"testing"

	"moraine/api"
)

// No bytes are those of no entries, also where there are none at all.
func TestDecodeOfNone(t *testing.T) {
	for _, b := range [][]byte{nil, {}, []byte("\x03\x00\x02ab")[:0], make([]byte, 0, 9)} {
		decodes(t, b, nil)
	}
	// Noughts aren't none.
	for n := 1; n < 100; n++ {
		decodesNot(t, make([]byte, n))
	}
}

// The entries by hand.
func TestDecodeByHand(t *testing.T) {
	decodes(t, []byte{1, 0, 1, 97}, []api.Entry{entry("a", 1)})
	decodes(t, []byte{56, 0, 2, 128, 255}, []api.Entry{entry("\x80\xff", 56)})
	decodes(t, []byte{2, 0, 1, 97, 1, 0, 2, 97, 98, 2, 0, 1, 98}, []api.Entry{entry("a", 2), entry("ab", 1), entry("b", 2)})
	decodesNot(t, []byte{0, 1, 1, 97})
	decodesNot(t, []byte{1, 1, 1, 97})
	decodesNot(t, []byte{1, 0, 0})
	decodesNot(t, []byte{1, 0, 2, 97})
	decodesNot(t, []byte{1, 0, 1, 97, 98})
	decodesNot(t, []byte{1, 0, 1, 97, 1, 0, 1, 97})
	decodesNot(t, []byte{1, 0, 1, 98, 1, 0, 1, 97})
}

// There may be up to 64 entries.
func TestDecodeByCount(t *testing.T) {
	for n := range 65 {
		decodes(t, plainBytes(many(n)), many(n))
		decodes(t, plainBytes(singles(n)), singles(n))
	}
	for _, n := range []int{65, 66, 128, 255, 256, 257, 256 + 64, 1<<16 + 1, 1<<16 + 64} {
		decodesNot(t, plainBytes(many(n)))
	}
	decodesNot(t, plainBytes(singles(65)))
	// Behind 64 whole ones, the begin of one more.
	full := plainBytes(many(64))
	for _, more := range [][]byte{{1}, {1, 0}, {1, 0, 0}, {1, 0, 1}, {1, 0, 1, 'z'}, {1, 0, 2, 'z'}, make([]byte, 100)} {
		decodesNot(t, append(slices.Clone(full), more...))
	}
}

// Each name alone, and with others on either side.
func TestDecodeOfEachName(t *testing.T) {
	for _, name := range someNames() {
		decodes(t, plainBytes(of(name)), of(name))
	}
	all := of(someNames()...)
	decodes(t, plainBytes(all), all)
	for at := range all {
		decodes(t, plainBytes(all[:at]), all[:at])
		decodes(t, plainBytes(all[at:]), all[at:])
		decodes(t, plainBytes(without(all, at)), without(all, at))
	}
}

// Bytes that end too early, at each place: only where an entry ends are they right.
func TestDecodeOfBytesThatEndEarly(t *testing.T) {
	for _, list := range [][]api.Entry{of("a"), of("ab"), of("a", "ab", "abcdefghijkl", "b"), of(someNames()...), many(64)} {
		b := plainBytes(list)
		ends := make(map[int]int)
		for n := range list {
			ends[len(plainBytes(list[:n]))] = n
		}
		for n := range b {
			if count, ok := ends[n]; ok {
				decodes(t, b[:n], list[:count])
			} else {
				decodesNot(t, b[:n])
			}
		}
		decodes(t, b, list)
	}
}

// A byte more, or some, at the end: they are an entry, or there are none.
func TestDecodeOfBytesMore(t *testing.T) {
	for _, list := range [][]api.Entry{nil, of("a"), of("a", "ab", "abcdefghijkl", "b"), of(someNames()...), many(64)} {
		for more := range 256 {
			decodesNot(t, append(plainBytes(list), byte(more)))
			decodesNot(t, append(plainBytes(list), byte(more), 0))
			decodesNot(t, append(plainBytes(list), 1, 0, byte(more)))
		}
	}
	longer := append(of("a", "b"), entry("\xff\xff\xff", 56))
	decodes(t, append(plainBytes(of("a", "b")), 56, 0, 3, 255, 255, 255), longer)
}

// A byte less, or more, at each place of the bytes.
func TestDecodeOfBytesMoved(t *testing.T) {
	b := plainBytes(of("a", "ab", "abcdefghijkl", "b", "ba"))
	for at := range b {
		for _, more := range []byte{0, 1, 2, 3, 'a', 'b', 255} {
			decodesAsPlain(t, slices.Insert(slices.Clone(b), at, more))
		}
		decodesAsPlain(t, slices.Delete(slices.Clone(b), at, at+1))
	}
}

// decodesAsPlain holds what Decode answers against the plainest way, and tells whether there are entries.
func decodesAsPlain(t *testing.T, b []byte) bool {
	t.Helper()
	want, ok := plainDecode(b)
	if ok {
		decodes(t, b, want)
	} else {
		decodesNot(t, b)
	}
	return ok
}

// A name's length: 1 to 12, and as many bytes as there are.
func TestDecodeByNamesLength(t *testing.T) {
	for length := range 256 {
		for n := range 270 {
			b := append([]byte{5, 0, byte(length)}, strings.Repeat("a", n)...)
			if n == length && n >= 1 && n <= 12 {
				decodes(t, b, of5(strings.Repeat("a", n)))
			} else {
				decodesNot(t, b)
			}
		}
	}
	// One beyond the end takes in what was the next entry, if there is one.
	for _, list := range [][]api.Entry{of("a", "b"), of("ab", "b", "c"), many(64)} {
		begin := 0
		for _, e := range list {
			for length := range 256 {
				b := plainBytes(list)
				b[begin+2] = byte(length)
				if ok := decodesAsPlain(t, b); ok && length != len(e.Name) {
					t.Errorf("%v: right", b)
				}
			}
			begin += 3 + len(e.Name)
		}
	}
}

// of5 is one entry of this name.
func of5(name string) []api.Entry {
	return []api.Entry{entry(name, 5)}
}

// Each byte of right entries, turned into each other one.
func TestDecodeWithEachByteTurned(t *testing.T) {
	right := 0
	for _, list := range [][]api.Entry{of("a"), of("a", "c"), of("a", "ab", "abcdefghijkl", "b"), of("\x80", "\xff", "\xff\xff")} {
		for at := range plainBytes(list) {
			for with := range 256 {
				b := plainBytes(list)
				b[at] = byte(with)
				if decodesAsPlain(t, b) {
					right++
				}
			}
		}
	}
	if right < 1000 {
		t.Errorf("%d are right", right)
	}
	b := plainBytes(many(64))
	for at := range b {
		for _, turn := range []byte{1, 2, 0x80, 0xFF} {
			b[at] ^= turn
			decodesAsPlain(t, b)
			b[at] ^= turn
		}
	}
}

// Ino is 1 to 56, of all that two bytes can tell, at each place.
func TestDecodeByIno(t *testing.T) {
	for ino := range 1 << 16 {
		b := []byte{byte(ino), byte(ino >> 8), 1, 'a'}
		if ino >= 1 && ino <= 56 {
			decodes(t, b, []api.Entry{entry("a", ino)})
		} else {
			decodesNot(t, b)
		}
	}
	for _, list := range [][]api.Entry{of("a", "b", "c"), many(64)} {
		for at, e := range list {
			for ino := 1; ino <= 56; ino++ {
				changed := with(list, at, entry(e.Name, ino))
				decodes(t, plainBytes(changed), changed)
			}
			for _, ino := range []int{0, 57, 64, 255, 256, 257, 256 + 56, 512 + 1, 256 * 56, 32768 + 1, 65535} {
				decodesNot(t, plainBytes(with(list, at, entry(e.Name, ino))))
			}
		}
	}
}

// A text that is no name, at each place, whether it would rise there or not.
func TestDecodeWithWhatIsNoName(t *testing.T) {
	for _, none := range noNames() {
		if len(none) > 255 {
			continue
		}
		decodesNot(t, plainBytes(of(none)))
		for _, list := range [][]api.Entry{of("a", "b"), of("b", "d", "f"), many(64), of(someNames()...)} {
			for at := range list {
				decodesNot(t, plainBytes(with(list, at, entry(none, 1))))
			}
			if at, _ := plainFind(list, none); len(list) < 64 {
				decodesNot(t, plainBytes(slices.Insert(slices.Clone(list), at, entry(none, 1))))
			}
		}
	}
}

// Names that are alike, or fall, at each place.
func TestDecodeOfNamesThatDoNotRise(t *testing.T) {
	for _, list := range [][]api.Entry{of("a", "b"), of("a", "ab", "abc", "b"), of(someNames()...), many(64)} {
		for at := 1; at < len(list); at++ {
			decodesNot(t, plainBytes(with(list, at, entry(list[at-1].Name, 7))))
			decodesNot(t, plainBytes(with(list, at-1, entry(list[at].Name, 7))))
			turned := slices.Clone(list)
			turned[at-1], turned[at] = turned[at], turned[at-1]
			decodesNot(t, plainBytes(turned))
		}
	}
	for _, a := range someNames() {
		for _, b := range someNames() {
			list := of(a, b)
			if plainBelow(a, b) {
				decodes(t, plainBytes(list), list)
			} else {
				decodesNot(t, plainBytes(list))
			}
		}
	}
}

// Very many bytes of no entries: all alike, all right but for the names, or one name that is too long.
func TestDecodeOfVeryManyBytes(t *testing.T) {
	for _, one := range [][]byte{{0}, {1}, {255}, {1, 0, 1, 97}, {1, 0, 0}, {0, 0, 12}, {1, 0}} {
		decodesNot(t, bytes.Repeat(one, 1<<20/len(one)))
	}
}

// All bytes of up to four kinds of entries, right and not, one behind the other, against the plainest way.
func TestDecodeOfShortRows(t *testing.T) {
	parts := [][]byte{{1, 0, 1, 'a'}, {56, 0, 1, 'b'}, {2, 0, 2, 'a', 'b'}, {57, 0, 1, 'c'}, {3, 0, 1, '.'}, {3, 0, 0}, {3, 0, 2, '.', '.'}, {4, 0, 1, 255}, {5}, {5, 0, 12}}
	rows := [][]byte{nil}
	right := 0
	for range 4 {
		for _, row := range rows {
			for _, part := range parts {
				rows = append(rows, slices.Concat(row, part))
			}
		}
		if len(rows) > 20000 {
			break
		}
	}
	for _, row := range rows {
		if decodesAsPlain(t, row) {
			right++
		}
	}
	if right < 15 {
		t.Errorf("%d are right", right)
	}
}

// All bytes of some few kinds, up to seven of them, against the plainest way.
func TestDecodeOfShortBytes(t *testing.T) {
	all := [][]byte{nil}
	last := all
	for range 7 {
		var next [][]byte
		for _, b := range last {
			for _, more := range []byte{0, 1, 2, 'a', 57} {
				next = append(next, append(slices.Clone(b), more))
			}
		}
		all, last = append(all, next...), next
	}
	right := 0
	for _, b := range all {
		if decodesAsPlain(t, b) {
			right++
		}
	}
	if right < 20 {
		t.Errorf("%d are right", right)
	}
}

// Encode of what Decode answers is the bytes.
func TestEncodeOfDecode(t *testing.T) {
	n := 0
	for _, list := range [][]api.Entry{nil, of("a"), of("a", "ab", "b"), of(someNames()...), singles(64), many(64)} {
		b := plainBytes(list)
		for at := range len(b) + 1 {
			for turn := range 64 {
				changed := slices.Clone(b)
				if at < len(b) {
					changed[at] ^= byte(turn)
				}
				if got, ok := Decode(changed); ok {
					encodes(t, got, changed)
					n++
				}
			}
		}
	}
	if n < 5000 {
		t.Errorf("%d are right", n)
	}
}
