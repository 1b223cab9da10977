package dirent

import (
	"bytes"
	"slices"
	"strconv"
	"strings"
	"testing"

	"moraine/api"
)

// plainName: is it a name, by the plainest means?
func plainName(s string) bool {
	return len(s) >= 1 && len(s) <= 12 && s != "." && s != ".." && !strings.ContainsAny(s, "/\x00")
}

// plainBelow: is a text below another one, by the plainest means: byte by byte?
func plainBelow(a, b string) bool {
	for i := range len(a) {
		if i == len(b) || a[i] > b[i] {
			return false
		}
		if a[i] < b[i] {
			return true
		}
	}
	return len(a) < len(b)
}

// plainRight: are entries right, by the plainest means: each one, and each two of them?
func plainRight(list []api.Entry) bool {
	for i, e := range list {
		if !plainName(e.Name) || e.Ino < 1 || e.Ino > 56 {
			return false
		}
		if i > 0 && !plainBelow(list[i-1].Name, e.Name) {
			return false
		}
	}
	return len(list) <= 64
}

// plainBytes: entries' bytes, by the plainest means, right ones or not: of numbers and lengths the lowest bytes.
func plainBytes(list []api.Entry) []byte {
	var b []byte
	for _, e := range list {
		b = append(b, byte(e.Ino), byte(e.Ino>>8), byte(len(e.Name)))
		b = append(b, e.Name...)
	}
	return b
}

// plainDecode: what Decode answers, by the plainest means: byte by byte, and the same bytes anew from what is told.
func plainDecode(b []byte) ([]api.Entry, bool) {
	var list []api.Entry
	for at := 0; at < len(b); {
		if at+3 > len(b) || at+3+int(b[at+2]) > len(b) {
			return nil, false
		}
		end := at + 3 + int(b[at+2])
		list = append(list, entry(string(b[at+3:end]), int(b[at])+256*int(b[at+1])))
		at = end
	}
	if !plainRight(list) || !bytes.Equal(plainBytes(list), b) {
		return nil, false
	}
	return list, true
}

// plainFind: what Find answers, by the plainest means: how many are below, and whether any has the name.
func plainFind(list []api.Entry, name string) (int, bool) {
	below, has := 0, false
	for _, e := range list {
		if plainBelow(e.Name, name) {
			below++
		}
		has = has || e.Name == name
	}
	return below, has
}

// plainPut: what Put answers, by the plainest means: those below, the entry, those above.
func plainPut(list []api.Entry, put api.Entry) []api.Entry {
	var below, above []api.Entry
	for _, e := range list {
		if plainBelow(e.Name, put.Name) {
			below = append(below, e)
		}
		if plainBelow(put.Name, e.Name) {
			above = append(above, e)
		}
	}
	return append(append(below, put), above...)
}

// plainCut: what Cut answers, by the plainest means: all others.
func plainCut(list []api.Entry, name string) []api.Entry {
	var out []api.Entry
	for _, e := range list {
		if e.Name != name {
			out = append(out, e)
		}
	}
	return out
}

// entry is one entry.
func entry(name string, ino int) api.Entry {
	return api.Entry{Name: name, Ino: ino}
}

// of are entries of these names, with numbers from 1 to 56 on.
func of(names ...string) []api.Entry {
	var out []api.Entry
	for i, name := range names {
		out = append(out, entry(name, i*7%56+1))
	}
	return out
}

// many are so many entries that are right but for there being too many, some with short names and some with ones of 12 bytes.
func many(n int) []api.Entry {
	var names []string
	for i := range n {
		name := "f" + strconv.Itoa(1000000+i)
		if i%3 == 0 {
			name += "abcd"
		}
		names = append(names, name)
	}
	return of(names...)
}

// singles are so many entries with names of one byte.
func singles(n int) []api.Entry {
	var names []string
	for i := range n {
		names = append(names, string([]byte{byte('0' + i)}))
	}
	return of(names...)
}

// with: a list with another entry at a place.
func with(list []api.Entry, at int, e api.Entry) []api.Entry {
	out := slices.Clone(list)
	out[at] = e
	return out
}

// without: a list without the entry at a place.
func without(list []api.Entry, at int) []api.Entry {
	return slices.Concat(list[:at], list[at+1:])
}

// rising are the texts of a list, each once, so that they rise.
func rising(names ...string) []string {
	out := slices.Clone(names)
	slices.SortFunc(out, func(a, b string) int {
		if plainBelow(a, b) {
			return -1
		}
		return 1
	})
	return slices.Compact(out)
}

// someNames are names that rise: short ones, ones of 12 bytes, fronts of others, blanks, dots, no text in UTF-8.
func someNames() []string {
	return rising(
		"a", "b", "ab", "aba", "abc", "A", "B", "Z", "z", "aa", "aaa", "...", "....", "..a", "a.", ".a", " ", "  ", " a", "a ", "\x01", "\x01\x01", "~", "\x7f", "\x80", "\x80\x80", "\xff", "\xff\xfe", "\xff\xff",
		"\xc0\x80", "é", "e\u0301", "世界世界", "\uFF0F", "\uFFFD", "\U0001F600", "abcdefghijkl", "abcdefghijk", "abcdefghijkm", strings.Repeat("\xff", 12), strings.Repeat("\x01", 12), strings.Repeat(".", 12), "10", "9", "-", "\\",
	)
}

// noNames are texts that are no names.
func noNames() []string {
	return []string{
		"", ".", "..", "/", "\x00", "a/", "/a", "a/b", "a\x00", "\x00a", "a\x00b", "abcdefghijk/", "abcdefghijk\x00", "abcdefghijklm", "世界世界a", strings.Repeat("\xff", 13), strings.Repeat("a", 24), strings.Repeat("a", 255), strings.Repeat("a", 256), strings.Repeat("a", 257), strings.Repeat("a", 268),
	}
}

// someTexts are texts that rise, names and others.
func someTexts() []string {
	return rising(append(someNames(), noNames()...)...)
}

// noInos are numbers that no entry has.
func noInos() []int {
	return []int{0, 57, 58, 64, 65, 255, 256, 257, 256 + 56, 65535, 65536, 65537, 65536 + 56, 1<<24 + 1, 1<<31 + 1, 1<<32 + 1, 1<<32 + 56, 1 << 62, -1, -2, -56, -255, -256, -65535, -65536, -65537, -1 << 31, -1<<32 + 1, 1<<63 - 1, -1 << 63}
}

// encodes holds what Encode answers against the bytes that are wanted, and true.
func encodes(t *testing.T, list []api.Entry, want []byte) {
	t.Helper()
	if got, ok := Encode(list); !bytes.Equal(got, want) || !ok {
		t.Errorf("Encode(%v): %v, %v, not %v, true", shortList(list), shortBytes(got), ok, shortBytes(want))
	}
}

// encodesNot holds what Encode answers against none, and false.
func encodesNot(t *testing.T, list []api.Entry) {
	t.Helper()
	if got, ok := Encode(list); len(got) != 0 || ok {
		t.Errorf("Encode(%v): %v, %v, not none, false", shortList(list), shortBytes(got), ok)
	}
}

// decodes holds what Decode answers against the entries that are wanted, and true.
func decodes(t *testing.T, b []byte, want []api.Entry) {
	t.Helper()
	if got, ok := Decode(b); !slices.Equal(got, want) || !ok {
		t.Errorf("Decode(%v): %v, %v, not %v, true", shortBytes(b), shortList(got), ok, shortList(want))
	}
}

// decodesNot holds what Decode answers against none, and false.
func decodesNot(t *testing.T, b []byte) {
	t.Helper()
	if got, ok := Decode(b); len(got) != 0 || ok {
		t.Errorf("Decode(%v): %v, %v, not none, false", shortBytes(b), shortList(got), ok)
	}
}

// finds holds what Find answers against the place that is wanted, and whether the name is there.
func finds(t *testing.T, list []api.Entry, name string, at int, has bool) {
	t.Helper()
	if got, ok := Find(list, name); got != at || ok != has {
		t.Errorf("Find(%v, %q): %d, %v, not %d, %v", shortList(list), short(name), got, ok, at, has)
	}
}

// puts holds what Put answers against the list that is wanted.
func puts(t *testing.T, list []api.Entry, e api.Entry, want []api.Entry) {
	t.Helper()
	if got := Put(list, e); !slices.Equal(got, want) {
		t.Errorf("Put(%v, %v): %v, not %v", shortList(list), shortList([]api.Entry{e}), shortList(got), shortList(want))
	}
}

// cuts holds what Cut answers against the list that is wanted.
func cuts(t *testing.T, list []api.Entry, name string, want []api.Entry) {
	t.Helper()
	if got := Cut(list, name); !slices.Equal(got, want) {
		t.Errorf("Cut(%v, %q): %v, not %v", shortList(list), short(name), shortList(got), shortList(want))
	}
}

// shortList: a list, or its beginning, with names, or their beginnings.
func shortList(list []api.Entry) []api.Entry {
	out := slices.Clone(list[:min(len(list), 9)])
	for i, e := range out {
		out[i].Name = short(e.Name)
	}
	return out
}

// short: a text, or its beginning.
func short(s string) string {
	return s[:min(len(s), 20)]
}

// shortBytes: bytes, or their beginning.
func shortBytes(b []byte) []byte {
	return b[:min(len(b), 40)]
}

// The chapter's example.
func TestExample(t *testing.T) {
	encodes(t, []api.Entry{entry("ab", 3)}, []byte{3, 0, 2, 97, 98})
	decodes(t, []byte{3, 0, 2, 97, 98}, []api.Entry{entry("ab", 3)})
}

// The lists of these tests are what they are taken for, and the plainest ways tell by themselves what the chapter says.
func TestPlainWays(t *testing.T) {
	for _, name := range someNames() {
		if !plainName(name) || !plainRight(of(name)) {
			t.Errorf("%q: no name", name)
		}
	}
	for _, s := range noNames() {
		if plainName(s) || plainRight(of(s)) {
			t.Errorf("%q: a name", s)
		}
	}
	if !slices.IsSorted(someTexts()) || !slices.IsSorted(someNames()) || len(someNames()) < 40 {
		t.Errorf("%q", someTexts())
	}
	if !plainRight(of(someNames()...)) || !plainRight(many(64)) || plainRight(many(65)) || !plainRight(nil) {
		t.Error("plainRight")
	}
	for _, list := range [][]api.Entry{of("a", "a"), of("b", "a"), of("ab", "a"), {entry("a", 0)}, {entry("a", 57)}} {
		if plainRight(list) {
			t.Errorf("%v: right", list)
		}
	}
	if got := plainBytes(of("a", "bc")); !bytes.Equal(got, []byte{1, 0, 1, 'a', 8, 0, 2, 'b', 'c'}) {
		t.Error(got)
	}
	if got, ok := plainDecode([]byte{1, 0, 1, 'a', 8, 0, 2, 'b', 'c'}); !slices.Equal(got, of("a", "bc")) || !ok {
		t.Error(got, ok)
	}
	if got, has := plainFind(of("a", "c"), "b"); got != 1 || has {
		t.Error(got, has)
	}
	if got := plainPut(of("a", "c"), entry("b", 9)); !slices.Equal(got, []api.Entry{entry("a", 1), entry("b", 9), entry("c", 8)}) {
		t.Error(got)
	}
	if got := plainPut(of("a", "c"), entry("c", 9)); !slices.Equal(got, []api.Entry{entry("a", 1), entry("c", 9)}) {
		t.Error(got)
	}
	if got := plainCut(of("a", "c"), "a"); !slices.Equal(got, []api.Entry{entry("c", 8)}) {
		t.Error(got)
	}
}
