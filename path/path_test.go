package path

import (
	"slices"
	"strings"
	"testing"

	"moraine/api"
)

// plainName: what Name answers, by the plainest means: byte by byte.
func plainName(s string) bool {
	for i := range len(s) {
		if s[i] == 0 || s[i] == 47 {
			return false
		}
	}
	return len(s) >= 1 && len(s) <= 12 && s != "." && s != ".."
}

// plainNames: are names a path's, by the plainest means?
func plainNames(names []string) bool {
	for _, name := range names {
		if !plainName(name) {
			return false
		}
	}
	return len(names) <= 8
}

// plainSplit: what Split answers, by the plainest means: byte by byte, a name ending where a "/" or nothing is behind it.
func plainSplit(path string) ([]string, api.Errno) {
	if path == "/" {
		return nil, api.OK
	}
	if path == "" || path[0] != '/' {
		return nil, api.ErrName
	}
	var names []string
	begin := 1
	for i := 1; i <= len(path); i++ {
		if i == len(path) || path[i] == '/' {
			names = append(names, path[begin:i])
			begin = i + 1
		}
	}
	if !plainNames(names) {
		return nil, api.ErrName
	}
	return names, api.OK
}

// plainJoin: what Join answers, by the plainest means.
func plainJoin(names []string) (string, api.Errno) {
	if !plainNames(names) {
		return "", api.ErrName
	}
	path := ""
	for _, name := range names {
		path += "/" + name
	}
	if path == "" {
		path = "/"
	}
	return path, api.OK
}

// plainWithin: what Within answers, by the plainest means: on the texts.
func plainWithin(path, above string) bool {
	_, wrong := plainSplit(path)
	_, wrongAbove := plainSplit(above)
	if wrong != api.OK || wrongAbove != api.OK {
		return false
	}
	return path == above || above == "/" || strings.HasPrefix(path, above+"/")
}

// someNames are names: short ones, ones of 12 bytes, dots, blanks, no text in UTF-8.
func someNames() []string {
	return []string{
		"a", "b", "ab", "A", "...", "....", "............", "..a", "a..", ".a", "a.", " ", ". ", " .", ".. ", "abcdefghijkl", "a b c", "\n", "\\", "\x01", "~",
		"\x7f", "\x80", "\xff", "\xff\xfe\xfd", "\xc0\x80", "\xc0\xaf", "\xed\xa0\x80", "\xe4\xb8", "\xf8\x88\x80\x80\x80", "é", "世界世界", "\uFF0F", "\u2024", "\u2024\u2024", "\uFFFD", strings.Repeat("\xff", 12), strings.Repeat(".", 12),
	}
}

// noNames are texts that are no names, and have no "/": where they stand in a path, it is none. (Neither is there "", which makes "/" of a path of one name.)
func noNames() []string {
	return []string{
		".", "..", "\x00", "\x00a", "a\x00", "a\x00b", "\x00\x00", ".\x00", "abcdefghijk\x00", "abcdefghijklm", ".............", "世界世界a", "世界世界世", strings.Repeat("\xff", 13), strings.Repeat("a", 24), strings.Repeat("a", 256), strings.Repeat("a", 257), strings.Repeat("a", 268), strings.Repeat("a", 65537), strings.Repeat("\x00", 12),
	}
}

// slashed are texts that are no names for a "/", or for having no byte: in a path they make names, or too many "/".
func slashed() []string {
	return []string{"", "/", "//", "a/", "/a", "a/b", "/a/b", "./a", "abcdefghijk/", "/abcdefghijk", "é/é", "\xe4/", "\xff/\xff"}
}

// letters are so many names, no two of them alike.
func letters(n int) []string {
	var out []string
	for i := range n {
		out = append(out, strings.Repeat(string(rune('a'+i%26)), i/26%12+1))
	}
	return out
}

// with: a list with another text at a place.
func with(list []string, at int, s string) []string {
	out := slices.Clone(list)
	out[at] = s
	return out
}

// isName holds what Name answers against what is wanted.
func isName(t *testing.T, want bool, s string) {
	t.Helper()
	if got := Name(s); got != want {
		t.Errorf("Name(%q): %v", short(s), got)
	}
}

// splits holds what Split answers against the names that are wanted, and OK.
func splits(t *testing.T, path string, want ...string) {
	t.Helper()
	if got, err := Split(path); !slices.Equal(got, want) || err != api.OK {
		t.Errorf("Split(%q): %q, %d, not %q, OK", short(path), got, err, want)
	}
}

// splitsNot holds what Split answers against none, and ErrName.
func splitsNot(t *testing.T, path string) {
	t.Helper()
	if got, err := Split(path); len(got) != 0 || err != api.ErrName {
		t.Errorf("Split(%q): %q, %d, not none, ErrName", short(path), got, err)
	}
}

// joins holds what Join answers against the path that is wanted, and OK.
func joins(t *testing.T, want string, names ...string) {
	t.Helper()
	if got, err := Join(names); got != want || err != api.OK {
		t.Errorf("Join(%q): %q, %d, not %q, OK", names, short(got), err, want)
	}
}

// joinsNot holds what Join answers against an empty text, and ErrName.
func joinsNot(t *testing.T, names ...string) {
	t.Helper()
	if got, err := Join(names); got != "" || err != api.ErrName {
		t.Errorf("Join of %d names, of them %q: %q, %d, not none, ErrName", len(names), short(strings.Join(names[:min(len(names), 9)], " ")), short(got), err)
	}
}

// within holds what Within answers against what is wanted.
func within(t *testing.T, want bool, path, above string) {
	t.Helper()
	if got := Within(path, above); got != want {
		t.Errorf("Within(%q, %q): %v", short(path), short(above), got)
	}
}

// short: a text, or its beginning.
func short(s string) string {
	return s[:min(len(s), 200)]
}

// The chapter's example.
func TestExample(t *testing.T) {
	splits(t, "/a/b", "a", "b")
	splitsNot(t, "/a/")
	splitsNot(t, "a")
	splitsNot(t, "")
}

// The lists of these tests are what they are taken for, and the plainest ways tell by themselves what the chapter says.
func TestPlainWays(t *testing.T) {
	for _, s := range someNames() {
		if !plainName(s) {
			t.Errorf("%q: no name", s)
		}
	}
	for _, s := range slices.Concat(noNames(), slashed()) {
		if plainName(s) {
			t.Errorf("%q: a name", s)
		}
	}
	if got, err := plainSplit("/a/bc"); !slices.Equal(got, []string{"a", "bc"}) || err != api.OK {
		t.Error(got, err)
	}
	if got, err := plainSplit("/"); len(got) != 0 || err != api.OK {
		t.Error(got, err)
	}
	for _, s := range []string{"", "a", "/a/", "//", "/a//b", "/.", "/a/b/c/d/e/f/g/h/i"} {
		if got, err := plainSplit(s); got != nil || err != api.ErrName {
			t.Error(s, got, err)
		}
	}
	if got, err := plainJoin([]string{"a", "bc"}); got != "/a/bc" || err != api.OK {
		t.Error(got, err)
	}
	if got, err := plainJoin(nil); got != "/" || err != api.OK {
		t.Error(got, err)
	}
	if plainWithin("/ab", "/a") || !plainWithin("/a/b", "/a") || !plainWithin("/", "/") || plainWithin("/", "/a") || plainWithin("a", "a") {
		t.Error("plainWithin")
	}
}
