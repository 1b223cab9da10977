package path

import (
	"slices"
	"testing"
)

// noPaths are texts that are no paths, some of them a byte or a name beside one.
func noPaths() []string {
	out := []string{"", "a", "a/", "a/b", "//", "//a", "/a/", "/a//b", "/a//", "/.", "/..", "/./a", "/a/.", "/a/..", "/a/../b", "/\x00", "/a\x00", "/a/\x00", "/abcdefghijklm", "/a/abcdefghijklm", " /a", textOf(letters(9)...), textOf(letters(8)...) + "/", textOf(letters(300)...)}
	for _, none := range noNames() {
		out = append(out, "/"+none, "/a/"+none)
	}
	return out
}

// somePaths are paths, of which some are within others, and some only begin with the same bytes.
func somePaths() []string {
	out := []string{"/", "/a", "/ab", "/abc", "/b", "/a/b", "/a/bc", "/a/b/c", "/ab/c", "/a/c", "/b/a", "/a/a", "/a/a/a", "/a.", "/...", "/a/...", "/ ", "/a ", "/a /b", "/\xff", "/\xff/\xfe", "/\xff\xfe", "/é", "/\xc3", "/abcdefghijkl", "/abcdefghijkl/a", "/abcdefghijk"}
	for n := range letters(8) {
		out = append(out, textOf(letters(n+1)...), textOf(letters(n + 1)[:n]...)+"/z")
	}
	for _, name := range someNames() {
		out = append(out, "/"+name, "/x/"+name, "/"+name+"/x")
	}
	return out
}

// Each path is within itself.
func TestWithinItself(t *testing.T) {
	for _, path := range somePaths() {
		within(t, true, path, path)
	}
	for n := range 9 {
		path, _ := Join(letters(n))
		within(t, true, path, path)
	}
}

// All paths are within "/", which is within no other one.
func TestWithinTheRoot(t *testing.T) {
	within(t, true, "/", "/")
	for _, path := range somePaths() {
		within(t, true, path, "/")
		within(t, path == "/", "/", path)
	}
}

// A path is within each one that it goes on from; none the other way round.
func TestWithinByDepth(t *testing.T) {
	for n := range 9 {
		for m := range 9 {
			path, _ := Join(letters(n))
			above, _ := Join(letters(m))
			within(t, n >= m, path, above)
		}
	}
	within(t, true, "/a/b", "/a")
	within(t, false, "/a", "/a/b")
	within(t, true, "/a/b/c", "/a")
	within(t, false, "/a/b/c", "/b")
	within(t, false, "/a/b/c", "/b/c")
	within(t, false, "/a/b/c", "/c")
	within(t, true, "/a/a", "/a")
	within(t, false, "/a", "/a/a")
}

// A name's front isn't a name.
func TestWithinAFrontOfAName(t *testing.T) {
	within(t, false, "/ab", "/a")
	within(t, false, "/a", "/ab")
	within(t, false, "/ab/c", "/a")
	within(t, false, "/a/bc", "/a/b")
	within(t, false, "/a/b", "/a/bc")
	within(t, false, "/ab/c", "/a/b/c")
	within(t, false, "/a/b", "/ab")
	within(t, false, "/ab", "/a/b")
	within(t, false, "/a.", "/a")
	within(t, false, "/a ", "/a")
	within(t, false, "/....", "/...")
	within(t, false, "/é", "/\xc3")
	within(t, false, "/\xff\xff", "/\xff")
	for n := 1; n <= 8; n++ {
		for at := range n {
			path, longer := textOf(letters(n)...), textOf(with(letters(n), at, letters(n)[at]+"x")...)
			within(t, false, longer, path)
			within(t, false, path, longer)
		}
	}
	// A front that is a text of 12 bytes, and of fewer.
	name := "abcdefghijkl"
	for n := 1; n < 12; n++ {
		within(t, false, "/"+name, "/"+name[:n])
		within(t, false, "/"+name[:n], "/"+name)
		within(t, false, "/x/"+name, "/x/"+name[:n])
		within(t, true, "/"+name[:n]+"/"+name[n:], "/"+name[:n])
	}
}

// Names that differ at one place, the first, in the middle or the last one, with either path the longer one, or both alike long.
func TestWithinWhereNamesDiffer(t *testing.T) {
	for n := 1; n <= 8; n++ {
		for m := 1; m <= 8; m++ {
			for at := range n {
				for _, other := range []string{"z", "A", "\xff", "abcdefghijkl", letters(26)[(at+1)%26]} {
					path, above := textOf(with(letters(n), at, other)...), textOf(letters(m)...)
					// What differs behind the other one's end doesn't matter.
					within(t, n >= m && at >= m, path, above)
					within(t, m >= n && at >= n, above, path)
				}
			}
		}
	}
}

// Bytes are held against each other as they are: not what they look like, nor small and great letters.
func TestWithinByBytes(t *testing.T) {
	within(t, false, "/A/b", "/a")
	within(t, false, "/e\u0301/b", "/é")
	within(t, false, "/\xff/b", "/\xfe")
	within(t, false, "/\uFFFD/b", "/\xff")
	within(t, false, "/\xff", "/\uFFFD")
	within(t, true, "/\xff/b", "/\xff")
	within(t, false, "/a/b/c", "/b/a")
}

// With either one no path, or both, the answer is false; also where one is the other one, or goes on from it.
func TestWithinWhatIsNoPath(t *testing.T) {
	for _, none := range noPaths() {
		splitsNot(t, none)
		within(t, false, none, none)
		within(t, false, none, "/")
		within(t, false, "/", none)
		within(t, false, none+"/a", none)
		within(t, false, none, none+"/a")
		within(t, false, "/a/b", none)
		within(t, false, none, "/a")
		for _, also := range noPaths() {
			within(t, false, none, also)
		}
		for _, path := range somePaths() {
			within(t, false, none, path)
			within(t, false, path, none)
		}
	}
	// A path that is too deep, and one that it would be within.
	deep, path := textOf(letters(9)...), textOf(letters(8)...)
	within(t, false, deep, path)
	within(t, false, path, deep)
	within(t, false, deep, deep)
	within(t, true, path, path)
}

// Each two of some paths, against the plainest way.
func TestWithinOfEachTwo(t *testing.T) {
	inside := 0
	for _, path := range somePaths() {
		for _, above := range somePaths() {
			want := plainWithin(path, above)
			within(t, want, path, above)
			if want {
				inside++
			}
		}
	}
	if inside < 2*len(somePaths()) {
		t.Errorf("%d are within", inside)
	}
}

// Each two of all texts of up to five of some bytes, against the plainest way.
func TestWithinOfShortTexts(t *testing.T) {
	all := texts([]byte{'a', 'b', '/'}, 5)
	paths := slices.DeleteFunc(slices.Clone(all), func(s string) bool { return s == "" || s[0] != '/' })
	for _, path := range paths {
		for _, above := range paths {
			within(t, plainWithin(path, above), path, above)
		}
	}
}
