package tree

import (
	"strings"
	"testing"

	"moraine/api"
)

// To what isn't there: a file, a directory with all that is in it.
func TestRenameToNothing(t *testing.T) {
	makes(t, of("/a:x"), op(api.OpRename, "/a", "/b"), of("/b:x"))
	makes(t, of("/b:x"), op(api.OpRename, "/b", "/a"), of("/a:x"))
	makes(t, of("/a/", "/a/b/", "/a/b/c:x"), op(api.OpRename, "/a", "/d"), of("/d/", "/d/b/", "/d/b/c:x"))
	makes(t, of("/a/", "/a/b/", "/a/b/c:x"), op(api.OpRename, "/a/b", "/b"), of("/a/", "/b/", "/b/c:x"))
	makes(t, of("/a/", "/a/b/", "/a/b/c:x"), op(api.OpRename, "/a/b/c", "/c"), of("/a/", "/a/b/", "/c:x"))
	makes(t, of("/a/", "/b/", "/b/c:x"), op(api.OpRename, "/b", "/a/z"), of("/a/", "/a/z/", "/a/z/c:x"))
	// All are numbered anew, and directories' links go with what they have.
	makes(t, of("/a/", "/b/", "/b/c:x", "/d:y"), op(api.OpRename, "/a", "/b/z"), nodes(dir(3, to("b", 1), to("d", 4)), dir(3, to("c", 2), to("z", 3)), file(1, "x"), dir(2), file(1, "y")))
	makes(t, of("/a:x", "/b:y", "/c:z"), op(api.OpRename, "/a", "/d"), nodes(dir(2, to("b", 1), to("c", 2), to("d", 3)), file(1, "y"), file(1, "z"), file(1, "x")))
	makes(t, of("/a:x", "/b=/a"), op(api.OpRename, "/a", "/c"), of("/b:x", "/c=/b"))
	makes(t, of("/a"), api.Op{Kind: api.OpRename, Path: "/a", To: "/b", At: -1, N: -1, Data: []byte("data")}, of("/b"))
	// A name that begins with the directory's isn't within it.
	makes(t, of("/a/", "/a/b"), op(api.OpRename, "/a", "/ab"), of("/ab/", "/ab/b"))
	makes(t, of("/a/", "/a/b", "/ab/"), op(api.OpRename, "/a", "/ab/c"), of("/ab/", "/ab/c/", "/ab/c/b"))
}

// To what is there: it goes, as far as this was its last entry.
func TestRenameToSomething(t *testing.T) {
	makes(t, of("/a:x", "/b:y"), op(api.OpRename, "/a", "/b"), of("/b:x"))
	makes(t, of("/a:x", "/b:y"), op(api.OpRename, "/b", "/a"), of("/a:y"))
	makes(t, of("/a:x", "/b:y", "/c=/b"), op(api.OpRename, "/a", "/b"), of("/b:x", "/c:y"))
	makes(t, of("/a:x", "/b:y", "/d/", "/d/c=/a"), op(api.OpRename, "/a", "/b"), of("/b:x", "/d/", "/d/c=/b"))
	makes(t, of("/a/", "/a/f:x", "/b/"), op(api.OpRename, "/a", "/b"), of("/b/", "/b/f:x"))
	makes(t, of("/a/", "/b/"), op(api.OpRename, "/a", "/b"), of("/b/"))
	makes(t, of("/a/", "/d/", "/d/b/", "/e:x"), op(api.OpRename, "/d/b", "/a"), nodes(dir(4, to("a", 1), to("d", 2), to("e", 3)), dir(2), dir(2), file(1, "x")))
	makes(t, of("/a/", "/d/", "/d/b/", "/d/b/c/"), op(api.OpRename, "/d/b", "/a"), of("/a/", "/a/c/", "/d/"))
	makes(t, of("/d/", "/d/b:y", "/a:x"), op(api.OpRename, "/a", "/d/b"), of("/d/", "/d/b:x"))
}

// To itself, and to another entry of the very node: nothing happens.
func TestRenameToItself(t *testing.T) {
	for _, path := range []string{"/a", "/d", "/d/a", "/d/e", "/d/e/f", "/k", "/d.x"} {
		makes(t, sample(), op(api.OpRename, path, path), sample())
	}
	makes(t, sample(), op(api.OpRename, "/a", "/d/a"), sample())
	makes(t, sample(), op(api.OpRename, "/d/a", "/a"), sample())
	makes(t, of("/a:x", "/b=/a"), op(api.OpRename, "/a", "/b"), of("/a:x", "/b=/a"))
	makes(t, crowded(), op(api.OpRename, "/f", "/a/100"), crowded())
	makes(t, crowded(), op(api.OpRename, "/a/100", "/a/101"), crowded())
	makes(t, crowded(), op(api.OpRename, "/b/100", "/b/100"), crowded())
	makes(t, deep(), op(api.OpRename, strings.Repeat("/x", 8), strings.Repeat("/x", 8)), deep())
}

// "/" on either side, and a directory into itself: ErrLoop.
func TestRenameLoop(t *testing.T) {
	for _, tree := range samples() {
		refuses(t, tree, api.ErrLoop, op(api.OpRename, "/", "/"), op(api.OpRename, "/", "/a"), op(api.OpRename, "/a", "/"), op(api.OpRename, "/none/x", "/"), op(api.OpRename, "/", "/none/x"))
	}
	refuses(t, sample(), api.ErrLoop, op(api.OpRename, "/d", "/d/new"), op(api.OpRename, "/d", "/d/e"), op(api.OpRename, "/d", "/d/e/v"), op(api.OpRename, "/d", "/d/e/v/new"), op(api.OpRename, "/d/e", "/d/e/v/new"), op(api.OpRename, "/k", "/k/k"))
	// A file has nothing within it.
	refuses(t, sample(), api.ErrNotDir, op(api.OpRename, "/a", "/a/b"), op(api.OpRename, "/a", "/a/b/c"))
}

// Each other error alone.
func TestRenameErrors(t *testing.T) {
	for _, text := range noTexts() {
		refuses(t, sample(), api.ErrName, op(api.OpRename, text, "/new"), op(api.OpRename, "/a", text), op(api.OpRename, text, text), op(api.OpRename, text, "/"), op(api.OpRename, "/", text))
	}
	refuses(t, sample(), api.ErrNone, op(api.OpRename, "/none", "/new"), op(api.OpRename, "/none/a", "/new"), op(api.OpRename, "/d/none", "/new"), op(api.OpRename, "/a", "/none/new"), op(api.OpRename, "/d", "/none/new"), op(api.OpRename, "/none", "/none"))
	refuses(t, sample(), api.ErrNotDir, op(api.OpRename, "/a/b", "/new"), op(api.OpRename, "/a", "/z/new"), op(api.OpRename, "/d", "/z/new"), op(api.OpRename, "/a", "/d/g/new/more"))
	// A directory to a file, a file to a directory, a directory to one with entries.
	refuses(t, sample(), api.ErrNotDir, op(api.OpRename, "/d", "/a"), op(api.OpRename, "/k", "/a"), op(api.OpRename, "/d/e", "/d/g"))
	refuses(t, sample(), api.ErrIsDir, op(api.OpRename, "/a", "/d"), op(api.OpRename, "/a", "/k"), op(api.OpRename, "/d/g", "/d"), op(api.OpRename, "/d/e/f", "/d/e"))
	refuses(t, sample(), api.ErrFilled, op(api.OpRename, "/k", "/d"), op(api.OpRename, "/d/e", "/d"), op(api.OpRename, "/d/e/v", "/d"), op(api.OpRename, "/k", "/d/e"))
}

// A directory of MaxEntries entries: none comes into it, but in the place of another one; within it all may be renamed.
func TestRenameFull(t *testing.T) {
	tree := of(append([]string{"/f:x", "/g:y", "/d/", "/e/", "/e/s/", "/k/"}, furtherTexts("/d", "/f", 62)...)...)
	tree = row(t, tree, op(api.OpMkdir, "/d/sub"), op(api.OpCreate, "/d/own"))
	refuses(t, tree, api.ErrMany, op(api.OpRename, "/g", "/d/new"), op(api.OpRename, "/e", "/d/new"), op(api.OpRename, "/f", "/d/new"), op(api.OpRename, "/e/s", "/d/1"))
	row(t, tree, op(api.OpRename, "/d/own", "/d/new"), op(api.OpRename, "/d/sub", "/d/other"), op(api.OpRename, "/d/100", "/d/zz"), op(api.OpRename, "/d/new", "/e/new"), op(api.OpRename, "/g", "/d/g"))
	row(t, tree, op(api.OpRename, "/g", "/d/own"))
	row(t, tree, op(api.OpRename, "/g", "/d/130"))
	row(t, tree, op(api.OpRename, "/e", "/d/sub"))
	row(t, tree, op(api.OpRename, "/d/own", "/d/130"), op(api.OpRename, "/g", "/d/own"))
	row(t, tree, op(api.OpRename, "/f", "/d/130"))
	// Full is a directory of MaxEntries entries, not one of fewer.
	less := row(t, tree, op(api.OpUnlink, "/d/110"))
	refuses(t, row(t, less, op(api.OpRename, "/g", "/d/new")), api.ErrMany, op(api.OpRename, "/e", "/d/more"))
	root := of(append([]string{"/d/", "/d/x", "/f"}, furtherTexts("/", "/f", 62)...)...)
	refuses(t, root, api.ErrMany, op(api.OpRename, "/d/x", "/new"))
	row(t, root, op(api.OpRename, "/f", "/new"), op(api.OpRename, "/d/x", "/new"))
	// With MaxNodes nodes all may be renamed.
	row(t, of(numberedTexts("/f", 55)...), op(api.OpRename, "/f100", "/new"), op(api.OpRename, "/new", "/a"), op(api.OpRename, "/a", "/f101"))
	// With MaxLinks entries a file may be renamed.
	row(t, crowded(), op(api.OpRename, "/f", "/new"), op(api.OpRename, "/a/100", "/e/new"))
}

// Where two errors could be told, the first one is.
func TestRenameOrder(t *testing.T) {
	tree := crowded()
	refuses(t, tree, api.ErrName, op(api.OpRename, "/none", "new"), op(api.OpRename, "/f/x", ""), op(api.OpRename, "/a", "/a/."), op(api.OpRename, "", "/"))
	refuses(t, tree, api.ErrLoop, op(api.OpRename, "/none", "/"), op(api.OpRename, "/f/x", "/"), op(api.OpRename, "/", "/f/x"), op(api.OpRename, "/", "/a/new"), op(api.OpRename, "/", "/e"))
	refuses(t, tree, api.ErrNone, op(api.OpRename, "/none", "/none/x"), op(api.OpRename, "/none", "/f/x"), op(api.OpRename, "/none", "/a"), op(api.OpRename, "/none", "/a/new"))
	refuses(t, tree, api.ErrNotDir, op(api.OpRename, "/f/x", "/none/x"), op(api.OpRename, "/f/x", "/a"), op(api.OpRename, "/f/x", "/a/new"), op(api.OpRename, "/f/x", "/f/x/y"))
	// Into itself: ahead of what is wrong with the place to be, of what is there, and of a full directory.
	refuses(t, tree, api.ErrLoop, op(api.OpRename, "/a", "/a/new"), op(api.OpRename, "/a", "/a/100"), op(api.OpRename, "/a", "/a/none/new"), op(api.OpRename, "/a", "/a/100/new"))
	refuses(t, sample(), api.ErrLoop, op(api.OpRename, "/d", "/d/e"), op(api.OpRename, "/d", "/d/a"), op(api.OpRename, "/d", "/d/a/new"), op(api.OpRename, "/d", "/d/none/new"))
	// What is at To: kinds ahead of its entries.
	refuses(t, tree, api.ErrNotDir, op(api.OpRename, "/e", "/a/100"), op(api.OpRename, "/a", "/f"))
	refuses(t, tree, api.ErrIsDir, op(api.OpRename, "/f", "/a"), op(api.OpRename, "/a/100", "/a"), op(api.OpRename, "/g", "/e"))
	refuses(t, tree, api.ErrFilled, op(api.OpRename, "/e", "/a"), op(api.OpRename, "/b", "/a"))
	refuses(t, tree, api.ErrMany, op(api.OpRename, "/e", "/a/new"), op(api.OpRename, "/g", "/b/new"))
}

// A directory that goes deeper takes along what no path leads to any more; it comes back with it.
func TestRenameBeyondTheDepth(t *testing.T) {
	tree := row(t, chainOf("n", 9), op(api.OpMkdir, "/a"), op(api.OpMkdir, "/a/b"), op(api.OpRename, "/n", "/a/b/n"))
	finds(t, tree, "/a/b/n/n/n/n/n/n", 8, api.OK)
	finds(t, tree, "/a/b/n/n/n/n/n/n/n", 0, api.ErrName)
	if len(tree.Nodes) != 11 {
		t.Error(short(tree))
	}
	refuses(t, tree, api.ErrFilled, op(api.OpRmdir, "/a/b/n/n/n/n/n/n"))
	tree = row(t, tree, op(api.OpRename, "/a/b/n/n", "/m"))
	finds(t, tree, "/m/n/n/n/n/n/n", 10, api.OK)
}
