package tree

import (
	"strings"
	"testing"

	"moraine/api"
)

// The place of each node, by each of its paths.
func TestFind(t *testing.T) {
	tree := sample()
	for path, place := range map[string]int{"/": 0, "/a": 1, "/d": 2, "/d/a": 1, "/d/e": 3, "/d/e/f": 4, "/d/e/v": 5, "/d/g": 6, "/d.x": 7, "/k": 8, "/z": 9} {
		finds(t, tree, path, place, api.OK)
	}
}

// Texts that are no paths: ErrName, whatever they might lead to.
func TestFindNoPath(t *testing.T) {
	for _, tree := range samples() {
		for _, text := range noTexts() {
			finds(t, tree, text, 0, api.ErrName)
		}
	}
	finds(t, sample(), "/a/.", 0, api.ErrName)
	finds(t, sample(), "/none/.", 0, api.ErrName)
	finds(t, sample(), "/d/", 0, api.ErrName)
	finds(t, sample(), "d", 0, api.ErrName)
}

// Through a file: ErrNotDir, also where further on there is nothing; to what isn't there: ErrNone, also where further names come.
func TestFindWrong(t *testing.T) {
	tree := sample()
	for _, path := range []string{"/a/b", "/a/b/c", "/d/a/a", "/d/e/f/g", "/d/e/f/g/h/i/j/k", "/z/z"} {
		finds(t, tree, path, 0, api.ErrNotDir)
	}
	for _, path := range []string{"/b", "/none/a", "/none/a/b", "/d/none", "/d/e/none/f", "/A", "/aa", "/k/a", "/d.", "/d/e/v/x", "/\xff", "/ "} {
		finds(t, tree, path, 0, api.ErrNone)
	}
	finds(t, New(), "/a", 0, api.ErrNone)
	finds(t, New(), "/", 0, api.OK)
}

// A path with MaxDepth names is followed, one with one more is none, though there is something.
func TestFindDepth(t *testing.T) {
	tree := deep()
	for n := 1; n <= 8; n++ {
		finds(t, tree, strings.Repeat("/x", n), n, api.OK)
	}
	finds(t, tree, strings.Repeat("/x", 9), 0, api.ErrName)
	finds(t, tree, strings.Repeat("/x", 7)+"/y", 9, api.OK)
	finds(t, tree, strings.Repeat("/x", 7)+"/y/z", 0, api.ErrName)
	finds(t, tree, strings.Repeat("/x", 7)+"/z", 0, api.ErrNone)
	finds(t, chain(56), strings.Repeat("/n", 8), 8, api.OK)
	finds(t, chain(56), strings.Repeat("/n", 9), 0, api.ErrName)
}

// Each of 55 files, and each of 64 entries of a directory.
func TestFindAmongMany(t *testing.T) {
	tree := of(numberedTexts("/f", 55)...)
	for i, path := range numberedTexts("/f", 55) {
		finds(t, tree, path, i+1, api.OK)
		finds(t, tree, path+"x", 0, api.ErrNone)
		finds(t, tree, path+"/x", 0, api.ErrNotDir)
	}
	tree = crowded()
	for _, path := range numberedTexts("/b/", 64) {
		finds(t, tree, path, 2, api.OK)
	}
	finds(t, tree, "/b/164", 0, api.ErrNone)
}

// Each path of some against the plainest way.
func TestFindPlainly(t *testing.T) {
	for _, tree := range samples() {
		for _, path := range somePaths() {
			place, wrong := plainFind(tree, path)
			finds(t, tree, path, place, wrong)
		}
	}
}

// somePaths are paths of what the samples have and of what they haven't, and texts that are none.
func somePaths() []string {
	return append(noTexts(), "/", "/a", "/b", "/c", "/d", "/d.x", "/k", "/z", "/n", "/x", "/new", "/a/b", "/a/100", "/a/163", "/a/164", "/b/130", "/b/new", "/c/x", "/c/y", "/d/a", "/d/e", "/d/e/f", "/d/e/v", "/d/e/new", "/d/g", "/d/new", "/d/107", "/e/new", "/f", "/f/new", "/f100", "/f154", "/g", "/h147", "/k/new", "/k/a/b", "/x/x", "/x/x/x/x/x/x/x/x", "/x/x/x/x/x/x/x/y", "/x/x/x/x/x/x/x/new", "/x/x/x/x/x/x/x/x/x", "/n/n", "/n/n/n/n/n/n/n/n", "/n/n/n/n/n/n/n/new")
}
