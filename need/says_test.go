package need

import (
	"bytes"
	"math"
	"slices"
	"strings"
	"testing"

	"moraine/api"
	"moraine/dirent"
)

// sizes are lengths of files: few bytes, around whole blocks, up to MaxSize and beyond.
func sizes() []int {
	return []int{0, 1, 2, 55, 56, 57, 111, 112, 113, 800, 895, 896, 897, 2463, 2464, 2465, 4031, 4032, 4033, 46311, 46312, 46313, 46366, 46367, 46368, 46369, 46424, 46425, 65535, 65536, 65537, 1 << 20}
}

// A file says its Data, whatever its bytes are and how many.
func TestFileSays(t *testing.T) {
	for _, n := range sizes() {
		for _, b := range [][]byte{filled(n), noughts(n)} {
			says(t, file(b), b)
		}
	}
	all := make([]byte, 256)
	for i := range all {
		all[i] = byte(i)
	}
	says(t, file(all), all)
	says(t, file([]byte{0, 1, 0}), []byte{0, 1, 0})
	says(t, file(nil), nil)
	says(t, file([]byte{}), nil)
}

// Links tell nothing, nor do a file's entries, nor a directory's Data.
func TestSaysOneThing(t *testing.T) {
	for _, links := range []int{0, 1, 2, 200, 201, -1, math.MaxInt, math.MinInt} {
		n := api.Node{Kind: api.KFile, Links: links, Data: []byte("data"), Entries: []api.Entry{to("ab", 2)}}
		says(t, n, []byte("data"))
		n.Data = nil
		says(t, n, nil)
		n = api.Node{Kind: api.KDir, Links: links, Data: []byte("data"), Entries: []api.Entry{to("ab", 2)}}
		says(t, n, []byte{3, 0, 2, 'a', 'b'})
		n.Entries = nil
		says(t, n, nil)
		for _, kind := range kinds() {
			n := api.Node{Kind: kind, Links: links, Data: []byte("data"), Entries: []api.Entry{to("ab", 2)}}
			says(t, n, []byte("data"))
			n.Data = nil
			says(t, n, nil)
		}
	}
}

// A node that is neither a file nor a directory says its Data.
func TestOtherKindSays(t *testing.T) {
	for _, kind := range kinds() {
		for _, n := range sizes() {
			says(t, strange(kind, filled(n)), filled(n))
			says(t, strange(kind, noughts(n)), noughts(n))
		}
	}
}

// A directory says its entries' bytes: no entry, one, MaxEntries.
func TestDirSays(t *testing.T) {
	says(t, dir(2), nil)
	says(t, api.Node{Kind: api.KDir, Links: 2, Entries: []api.Entry{}}, nil)
	says(t, dir(2, to("ab", 2)), []byte{3, 0, 2, 'a', 'b'})
	says(t, dir(2, to("a", 1), to("bc", 7)), []byte{2, 0, 1, 'a', 8, 0, 2, 'b', 'c'})
	says(t, dir(2, to("abcdefghijkl", 55)), append([]byte{56, 0, 12}, "abcdefghijkl"...))
	for n := range 65 {
		for length := 1; length <= 12; length++ {
			list := entries(n, length)
			want := plainSays(dir(2, list...))
			if len(want) != n*(3+length) {
				t.Fatal(n, length, len(want))
			}
			says(t, dir(2, list...), want)
		}
	}
}

// Each Ino is one more than its place; that is so for every place that can be, the root's too.
func TestInoIsOneMore(t *testing.T) {
	for place := range 56 {
		says(t, dir(2, to("n", place)), []byte{byte(place + 1), 0, 1, 'n'})
		says(t, dir(2, to("a", 55-place), to("n", place)), []byte{byte(56 - place), 0, 1, 'a', byte(place + 1), 0, 1, 'n'})
		list, ok := dirent.Decode(Says(dir(2, to("n", place))))
		if !ok || !slices.Equal(list, []api.Entry{to("n", place+1)}) {
			t.Errorf("place %d: %v, %v", place, list, ok)
		}
	}
}

// noPlaces are numbers of which no Ino can be made.
func noPlaces() []int {
	return []int{-1, -2, -56, -57, 56, 57, 58, 255, 256, 257, 65534, 65535, 65536, 65537, 1 << 31, 1<<32 - 1, 1 << 32, 1<<32 + 1, 1 << 62, math.MaxInt - 1, math.MaxInt, -1 << 32, -1<<32 + 1, math.MinInt, math.MinInt + 1}
}

// noNames are texts that are no names.
func noNames() []string {
	return []string{"", ".", "..", "/", "a/", "/a", "a/b", "\x00", "a\x00", "\x00a", "abcdefghijklm", "abcdefghijk/", strings.Repeat("a", 256), strings.Repeat("a", 257), strings.Repeat("a", 65537)}
}

// noDirs are directories whose entries can't be encoded.
func noDirs() []api.Node {
	list := []api.Node{
		dir(2, to("a", 1), to("a", 1)), dir(2, to("a", 1), to("a", 2)), dir(2, to("b", 1), to("a", 2)), dir(2, to("ab", 1), to("a", 2)), dir(2, to("a", 1), to("c", 2), to("b", 3)),
		dir(2, to("a", 1), to("b", 2), to("a", 3)), dir(2, append(entries(63, 1), to("0", 1))...), dir(2, entries(65, 1)...), dir(2, entries(65, 12)...), dir(2, entries(66, 2)...), dir(2, make([]api.Entry, 3)...), dir(2, make([]api.Entry, 70000)...),
	}
	for _, place := range noPlaces() {
		list = append(list, dir(2, to("a", place)), dir(2, to("a", place), to("b", 2)), dir(2, to("a", 1), to("b", place)), dir(2, append(entries(63, 1), to("z", place))...))
	}
	for _, name := range noNames() {
		list = append(list, dir(2, to(name, 1)), dir(2, to(name, 1), to("~", 2)), dir(2, to("!", 1), to(name, 2)))
	}
	return list
}

// A directory whose entries can't be encoded says nothing, not even those that could be; its Data isn't told in their place.
func TestNoEntriesSayNothing(t *testing.T) {
	for _, n := range noDirs() {
		says(t, n, nil)
		n.Data = []byte("data")
		says(t, n, nil)
		// A file's entries are none of its words.
		n.Kind = api.KFile
		says(t, n, []byte("data"))
		n.Kind = 0
		says(t, n, []byte("data"))
	}
}

// Names of each kind of bytes are said as they stand.
func TestNamesAreSaid(t *testing.T) {
	for c := range 256 {
		name := string([]byte{byte(c)})
		want := []byte{10, 0, 1, byte(c)}
		if c == 0 || c == '/' || c == '.' {
			want = nil
		}
		says(t, dir(2, to(name, 9)), want)
		says(t, dir(2, to("!"+name, 9)), plainSays(dir(2, to("!"+name, 9))))
	}
	for _, name := range []string{"...", "a.", " ", "é", "世界世界", "\xff\xfe", "\x01", "e\u0301"} {
		if got := Says(dir(2, to(name, 4))); !bytes.Equal(got, append([]byte{5, 0, byte(len(name))}, name...)) {
			t.Errorf("%q: %v", name, got)
		}
	}
}
