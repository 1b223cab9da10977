package tree

import (
	"strings"
	"testing"

	"moraine/api"
)

// One of two entries goes, and the file stays; with the last one the file goes.
func TestUnlink(t *testing.T) {
	makes(t, of("/a:x"), op(api.OpUnlink, "/a"), New())
	makes(t, of("/a:x", "/b=/a"), op(api.OpUnlink, "/a"), of("/b:x"))
	makes(t, of("/a:x", "/b=/a"), op(api.OpUnlink, "/b"), of("/a:x"))
	makes(t, of("/a:x", "/b=/a", "/c=/a"), op(api.OpUnlink, "/b"), nodes(dir(2, to("a", 1), to("c", 1)), file(2, "x")))
	// What was met by it is met later then.
	makes(t, of("/a/", "/a/z:x", "/b:y", "/c=/a/z"), op(api.OpUnlink, "/a/z"), nodes(dir(3, to("a", 1), to("b", 2), to("c", 3)), dir(2), file(1, "y"), file(1, "x")))
	makes(t, of("/a/", "/a/b:x", "/c:y"), op(api.OpUnlink, "/a/b"), nodes(dir(3, to("a", 1), to("c", 2)), dir(2), file(1, "y")))
	makes(t, sample(), op(api.OpUnlink, "/a"), of("/d/", "/d/e/", "/d/e/f", "/d/a:hello", "/d/g:0123456789", "/k/", "/z", "/d.x/", "/d/e/v/"))
	makes(t, of("/a"), api.Op{Kind: api.OpUnlink, Path: "/a", To: "no path", At: -1, N: -1, Data: []byte("data")}, New())
	makes(t, of(strings.Split("/x/ /x/x/ /x/x/x/ /x/x/x/x/ /x/x/x/x/x/ /x/x/x/x/x/x/ /x/x/x/x/x/x/x/ /x/x/x/x/x/x/x/x", " ")...), op(api.OpUnlink, strings.Repeat("/x", 8)), chainOf("x", 8))
	got := row(t, of("/a", "/b=/a"), op(api.OpUnlink, "/a"), op(api.OpUnlink, "/b"))
	if !same(got, New()) {
		t.Error(short(got))
	}
}

// chainOf: so many directories, the root among them, each of one name in the one ahead of it.
func chainOf(name string, n int) api.Tree {
	tree := chain(n)
	for i := range n - 1 {
		tree.Nodes[i].Entries[0].Name = name
	}
	return tree
}

// Each error of it alone, and where two could be told.
func TestUnlinkErrors(t *testing.T) {
	for _, text := range noTexts() {
		refuses(t, sample(), api.ErrName, op(api.OpUnlink, text))
	}
	refuses(t, sample(), api.ErrName, op(api.OpUnlink, "/a/."), op(api.OpUnlink, "/none/.."), op(api.OpUnlink, "/d/"))
	refuses(t, sample(), api.ErrNone, op(api.OpUnlink, "/none"), op(api.OpUnlink, "/none/a"), op(api.OpUnlink, "/d/none"), op(api.OpUnlink, "/k/a"))
	refuses(t, sample(), api.ErrNotDir, op(api.OpUnlink, "/a/a"), op(api.OpUnlink, "/d/e/f/g/h"))
	refuses(t, sample(), api.ErrIsDir, op(api.OpUnlink, "/"), op(api.OpUnlink, "/d"), op(api.OpUnlink, "/k"), op(api.OpUnlink, "/d/e/v"))
	refuses(t, New(), api.ErrNone, op(api.OpUnlink, "/a"))
	refuses(t, New(), api.ErrIsDir, op(api.OpUnlink, "/"))
}

// An empty directory goes.
func TestRmdir(t *testing.T) {
	makes(t, of("/a/"), op(api.OpRmdir, "/a"), New())
	makes(t, of("/a/", "/a/b/", "/c:x"), op(api.OpRmdir, "/a/b"), nodes(dir(3, to("a", 1), to("c", 2)), dir(2), file(1, "x")))
	makes(t, sample(), op(api.OpRmdir, "/k"), of("/a:hello", "/d/", "/d/e/", "/d/e/f", "/d/a=/a", "/d/g:0123456789", "/z", "/d.x/", "/d/e/v/"))
	makes(t, of("/a/"), api.Op{Kind: api.OpRmdir, Path: "/a", To: "no path", At: -1, N: -1, Data: []byte("data")}, New())
	makes(t, chain(9), op(api.OpRmdir, strings.Repeat("/n", 8)), chain(8))
	got := row(t, of("/a/", "/a/b"), op(api.OpUnlink, "/a/b"), op(api.OpRmdir, "/a"))
	if !same(got, New()) {
		t.Error(short(got))
	}
}

// Each error of it alone, and where two could be told.
func TestRmdirErrors(t *testing.T) {
	for _, text := range noTexts() {
		refuses(t, sample(), api.ErrName, op(api.OpRmdir, text))
	}
	refuses(t, sample(), api.ErrName, op(api.OpRmdir, "/k/."), op(api.OpRmdir, "/none/.."), op(api.OpRmdir, "/k/"))
	refuses(t, sample(), api.ErrNone, op(api.OpRmdir, "/none"), op(api.OpRmdir, "/none/a"), op(api.OpRmdir, "/d/none"), op(api.OpRmdir, "/k/a"))
	refuses(t, sample(), api.ErrNotDir, op(api.OpRmdir, "/a/a"), op(api.OpRmdir, "/d/e/f/g/h"), op(api.OpRmdir, "/a"), op(api.OpRmdir, "/d/e/f"))
	refuses(t, sample(), api.ErrFilled, op(api.OpRmdir, "/"), op(api.OpRmdir, "/d"), op(api.OpRmdir, "/d/e"))
	refuses(t, New(), api.ErrFilled, op(api.OpRmdir, "/"))
	refuses(t, chain(56), api.ErrFilled, op(api.OpRmdir, "/"), op(api.OpRmdir, "/n"), op(api.OpRmdir, strings.Repeat("/n", 8)))
	refuses(t, of("/a/", "/a/b"), api.ErrFilled, op(api.OpRmdir, "/a"))
	refuses(t, of("/a/", "/a/b/"), api.ErrFilled, op(api.OpRmdir, "/a"))
}
