package path

import (
	"strings"
	"testing"

	"moraine/api"
)

// textOf: a "/" ahead of each of a list's texts, be they names or not.
func textOf(names ...string) string {
	var out strings.Builder
	for _, name := range names {
		out.WriteString("/" + name)
	}
	return out.String()
}

// No byte is no path; "/" alone is the one without names.
func TestSplitWithoutNames(t *testing.T) {
	splitsNot(t, "")
	splits(t, "/")
}

// A path has up to 8 names.
func TestSplitByDepth(t *testing.T) {
	splits(t, "/a", "a")
	splits(t, "/a/b/c/d/e/f/g/h", "a", "b", "c", "d", "e", "f", "g", "h")
	splitsNot(t, "/a/b/c/d/e/f/g/h/i")
	splitsNot(t, "/a/b/c/d/e/f/g/h/")
	for n := 1; n <= 8; n++ {
		splits(t, textOf(letters(n)...), letters(n)...)
	}
	for _, n := range []int{9, 10, 11, 16, 17, 255, 256, 257, 264, 1<<16 + 1, 1 << 20} {
		splitsNot(t, textOf(letters(n)...))
		splitsNot(t, strings.Repeat("/a", n))
	}
}

// The longest path has 8 names of 12 bytes.
func TestSplitOfTheLongest(t *testing.T) {
	long := strings.Split(strings.Repeat("abcdefghijkl ", 8), " ")[:8]
	splits(t, textOf(long...), long...)
	for at := range long {
		splitsNot(t, textOf(with(long, at, "abcdefghijklm")...))
	}
	splitsNot(t, textOf(append(long, "a")...))
	splitsNot(t, textOf(long...)+"/")
	splitsNot(t, textOf(long...)+"m")
}

// Each name at each place of paths of each depth.
func TestSplitOfEachName(t *testing.T) {
	for _, name := range someNames() {
		for n := 1; n <= 8; n++ {
			for at := range n {
				names := with(letters(n), at, name)
				splits(t, textOf(names...), names...)
			}
		}
	}
	// Names may be alike.
	for n := 1; n <= 8; n++ {
		splits(t, strings.Repeat("/ab", n), strings.Split(strings.Repeat("ab/", n), "/")[:n]...)
	}
}

// A "/" more, at the front, in the middle or at the end, makes a path none.
func TestSplitWithOneSlashMore(t *testing.T) {
	for _, s := range []string{"//", "///", "//a", "/a//b", "/a/b/", "//a/b", "/a/b//", "//a//b//", "/a/", "/a//"} {
		splitsNot(t, s)
	}
	for n := 1; n <= 8; n++ {
		path := textOf(letters(n)...)
		for at := range len(path) + 1 {
			// Within a name of one byte there is no place for it: it is always beside another one, or at the end.
			splitsNot(t, path[:at]+"/"+path[at:])
			splitsNot(t, path[:at]+"//"+path[at:])
		}
	}
	for n := 2; n < 20; n++ {
		splitsNot(t, strings.Repeat("/", n))
	}
	splitsNot(t, strings.Repeat("/", 1<<20))
	splitsNot(t, "/a"+strings.Repeat("/", 1<<20))
	splitsNot(t, strings.Repeat("/", 1<<20)+"a")
}

// Without a "/" at the front there is no path.
func TestSplitWithoutSlashAtTheFront(t *testing.T) {
	for n := 1; n <= 9; n++ {
		splitsNot(t, textOf(letters(n)...)[1:])
		splitsNot(t, textOf(letters(n)...)[1:]+"/")
	}
	for _, s := range []string{"a", "a/", "a/b", ".", "..", "./", "./a", "../a", " ", " /", " /a", "\x00", "\x00/a", "\\a", "\\", "\uFF0Fa", "\xc0\xafa", "\xaf", "~/a"} {
		splitsNot(t, s)
	}
	for _, name := range someNames() {
		splitsNot(t, name)
		splitsNot(t, name+"/a")
		splitsNot(t, name+"/")
	}
	for b := range 256 {
		if b != '/' {
			splitsNot(t, string([]byte{byte(b)}))
			splitsNot(t, string([]byte{byte(b), '/', 'a'}))
		}
	}
	splitsNot(t, strings.Repeat("a", 1<<20))
}

// What is no name, at each place, makes a path none, be it too deep besides or not.
func TestSplitWithWhatIsNoName(t *testing.T) {
	for _, none := range noNames() {
		for n := 1; n <= 10; n++ {
			for at := range n {
				splitsNot(t, textOf(with(letters(n), at, none)...))
			}
		}
	}
	// A name without a byte is none, too; but a path of such a one alone is "/".
	for n := 2; n <= 10; n++ {
		for at := range n {
			splitsNot(t, textOf(with(letters(n), at, "")...))
		}
	}
	splitsNot(t, "/"+strings.Repeat("a", 1<<20))
	splitsNot(t, "/a/"+strings.Repeat("a", 1<<20))
	splitsNot(t, "/"+strings.Repeat("a", 1<<20)+"/a")
	splitsNot(t, strings.Repeat("/.", 1<<18))
}

// Only "/" parts names: each other byte is part of one.
func TestSplitAtNothingElse(t *testing.T) {
	for b := 1; b < 256; b++ {
		if b != '/' {
			name := string([]byte{'a', byte(b), 'b'})
			splits(t, "/"+name, name)
			splits(t, "/x/"+name+"/y", "x", name, "y")
		}
	}
	splits(t, "/ a / b ", " a ", " b ")
	splits(t, "/...", "...")
	splits(t, "/a\n/b", "a\n", "b")
}

// A text is a path just if it is a "/" and a name, once or more often, or "/" alone: all texts of up to six of some bytes, against the paths of all lists of names of them.
func TestSplitOfShortTexts(t *testing.T) {
	some := []byte{'a', '.', '/', 0, 0xC3}
	const most = 6
	paths := map[string][]string{"/": nil}
	lists := [][]string{nil}
	for len(lists) > 0 {
		var longer [][]string
		for _, list := range lists {
			for _, name := range texts(some, most-1-len(textOf(list...))) {
				more := append(list[:len(list):len(list)], name)
				if plainName(name) {
					paths[textOf(more...)] = more
					longer = append(longer, more)
				}
			}
		}
		lists = longer
	}
	found := 0
	for _, s := range texts(some, most) {
		if names, ok := paths[s]; ok {
			splits(t, s, names...)
			found++
		} else {
			splitsNot(t, s)
		}
	}
	if found != len(paths) || found < 200 {
		t.Errorf("%d of %d paths", found, len(paths))
	}
}

// Join of what Split answers is the path.
func TestJoinOfSplit(t *testing.T) {
	n := 0
	for _, path := range append(texts([]byte{'a', '.', '/', 0xFF}, 7), "/"+strings.Repeat("a", 12), textOf(letters(8)...), textOf(someNames()[:8]...)) {
		names, err := Split(path)
		if err != api.OK {
			continue
		}
		joins(t, path, names...)
		n++
	}
	if n < 500 {
		t.Errorf("%d paths", n)
	}
}
