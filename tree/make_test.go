package tree

import (
	"strings"
	"testing"

	"moraine/api"
)

// making are the operations that make something at a path.
func making() []int {
	return []int{api.OpCreate, api.OpMkdir}
}

// What is made is there, numbered as it is met.
func TestMake(t *testing.T) {
	makes(t, New(), op(api.OpCreate, "/a"), of("/a"))
	makes(t, New(), op(api.OpMkdir, "/a"), of("/a/"))
	makes(t, New(), op(api.OpCreate, "/abcdefghijkl"), nodes(dir(2, to("abcdefghijkl", 1)), file(1, "")))
	makes(t, New(), op(api.OpMkdir, "/\xff"), nodes(dir(3, to("\xff", 1)), dir(2)))
	makes(t, of("/b:x"), op(api.OpMkdir, "/a"), nodes(dir(3, to("a", 1), to("b", 2)), dir(2), file(1, "x")))
	makes(t, of("/b/", "/b/c:x"), op(api.OpCreate, "/b/a"), nodes(dir(3, to("b", 1)), dir(2, to("a", 2), to("c", 3)), file(1, ""), file(1, "x")))
	makes(t, of("/b/", "/b/c:x", "/d:y"), op(api.OpMkdir, "/b/d"), nodes(dir(3, to("b", 1), to("d", 4)), dir(3, to("c", 2), to("d", 3)), file(1, "x"), dir(2), file(1, "y")))
	makes(t, of("/b:x", "/c=/b"), op(api.OpCreate, "/a"), nodes(dir(2, to("a", 1), to("b", 2), to("c", 2)), file(1, ""), file(2, "x")))
	finds(t, row(t, deep(), op(api.OpCreate, strings.Repeat("/x", 7)+"/a")), strings.Repeat("/x", 7)+"/a", 8, api.OK)
}

// What a making ignores: To, At, N, Data.
func TestMakeIgnoresTheRest(t *testing.T) {
	for _, kind := range making() {
		want, _ := plainDo(sample(), op(kind, "/new"))
		makes(t, sample(), api.Op{Kind: kind, Path: "/new", To: "no path", At: -1, N: -1, Data: []byte("data")}, want)
	}
}

// Each error of a making alone.
func TestMakeErrors(t *testing.T) {
	for _, kind := range making() {
		for _, tree := range samples() {
			refuses(t, tree, api.ErrExists, op(kind, "/"))
			for _, text := range noTexts() {
				refuses(t, tree, api.ErrName, op(kind, text))
			}
		}
		refuses(t, sample(), api.ErrNone, op(kind, "/none/a"), op(kind, "/d/none/a"), op(kind, "/d/none/a/b"), op(kind, "/k/a/a"))
		refuses(t, sample(), api.ErrNotDir, op(kind, "/a/b"), op(kind, "/a/b/c"), op(kind, "/d/e/f/a"), op(kind, "/d/g/x"))
		refuses(t, sample(), api.ErrExists, op(kind, "/a"), op(kind, "/d"), op(kind, "/d/e"), op(kind, "/d/e/f"), op(kind, "/d/a"))
		refuses(t, deep(), api.ErrName, op(kind, strings.Repeat("/x", 7)+"/y/a"), op(kind, strings.Repeat("/x", 9)))
	}
}

// MaxNodes nodes: no more; with one less there is room for one.
func TestMakeMaxNodes(t *testing.T) {
	for _, kind := range making() {
		for n := 50; n < 55; n++ {
			tree := of(numberedTexts("/f", n)...)
			got := row(t, tree, op(kind, "/new"))
			if len(got.Nodes) != n+2 {
				t.Errorf("%d nodes", len(got.Nodes))
			}
		}
		full := of(numberedTexts("/f", 55)...)
		refuses(t, full, api.ErrMany, op(kind, "/new"), op(kind, "/a"))
		row(t, row(t, full, op(api.OpUnlink, "/f120")), op(kind, "/new"))
		refuses(t, chain(56), api.ErrMany, op(kind, "/a"), op(kind, "/n/n/n/n/n/n/n/a"))
		row(t, chain(55), op(kind, "/a"))
		// Nodes count, not entries.
		row(t, of(append([]string{"/f", "/d/"}, furtherTexts("/d", "/f", 64)...)...), op(kind, "/new"))
	}
}

// MaxEntries entries: no more; with one less there is room for one, and in other directories as ever.
func TestMakeMaxEntries(t *testing.T) {
	for _, kind := range making() {
		for n := 60; n <= 64; n++ {
			in := of(append([]string{"/f", "/d/", "/e/"}, furtherTexts("/d", "/f", n)...)...)
			at := of(append([]string{"/f"}, furtherTexts("/", "/f", n-1)...)...)
			if n < 64 {
				row(t, in, op(kind, "/d/new"), op(kind, "/e/new"))
				row(t, at, op(kind, "/new"))
				continue
			}
			refuses(t, in, api.ErrMany, op(kind, "/d/new"), op(kind, "/d/1"))
			refuses(t, at, api.ErrMany, op(kind, "/new"))
			row(t, in, op(kind, "/e/new"), op(kind, "/new"))
			row(t, row(t, in, op(api.OpUnlink, "/d/100")), op(kind, "/d/new"))
		}
	}
}

// Where two errors could be told, the first one is.
func TestMakeOrder(t *testing.T) {
	for _, kind := range making() {
		refuses(t, crowded(), api.ErrExists, op(kind, "/"), op(kind, "/a"), op(kind, "/f"), op(kind, "/a/100"), op(kind, "/c/x"))
		refuses(t, crowded(), api.ErrName, op(kind, "/a/."), op(kind, "/a/100/."), op(kind, "/none/.."), op(kind, ""))
		refuses(t, crowded(), api.ErrNotDir, op(kind, "/f/new"), op(kind, "/a/100/new"), op(kind, "/f/new/more"))
		refuses(t, crowded(), api.ErrNone, op(kind, "/none/new"), op(kind, "/a/new/more"))
		refuses(t, crowded(), api.ErrMany, op(kind, "/a/new"), op(kind, "/e/new"), op(kind, "/new"))
	}
}

// A further entry: the file is there, too.
func TestLink(t *testing.T) {
	makes(t, of("/a:x"), op(api.OpLink, "/a", "/b"), nodes(dir(2, to("a", 1), to("b", 1)), file(2, "x")))
	makes(t, of("/b:x"), op(api.OpLink, "/b", "/a"), nodes(dir(2, to("a", 1), to("b", 1)), file(2, "x")))
	// It is met earlier then.
	makes(t, of("/a/", "/b:y", "/c:x"), op(api.OpLink, "/c", "/a/z"), nodes(dir(3, to("a", 1), to("b", 3), to("c", 2)), dir(2, to("z", 2)), file(2, "x"), file(1, "y")))
	makes(t, of("/a:x", "/b=/a"), op(api.OpLink, "/b", "/c"), nodes(dir(2, to("a", 1), to("b", 1), to("c", 1)), file(3, "x")))
	makes(t, sample(), op(api.OpLink, "/d/e/f", "/k/f"), of("/a:hello", "/d/", "/d/e/", "/d/e/f", "/d/a=/a", "/d/g:0123456789", "/k/", "/k/f=/d/e/f", "/z", "/d.x/", "/d/e/v/"))
	makes(t, sample(), api.Op{Kind: api.OpLink, Path: "/z", To: "/y", At: -1, N: -1, Data: []byte("data")}, of("/a:hello", "/d/", "/d/e/", "/d/e/f", "/d/a=/a", "/d/g:0123456789", "/k/", "/z", "/y=/z", "/d.x/", "/d/e/v/"))
	tree := row(t, of("/a"), op(api.OpLink, "/a", "/b"), writing("/b", 0, "new"))
	tells(t, tree, reading("/a", 0, 9), api.Result{Data: []byte("new")})
	// A tree of MaxNodes nodes has room for entries.
	row(t, of(numberedTexts("/f", 55)...), op(api.OpLink, "/f100", "/new"))
}

// Each error of a further entry alone.
func TestLinkErrors(t *testing.T) {
	for _, text := range noTexts() {
		refuses(t, sample(), api.ErrName, op(api.OpLink, text, "/new"), op(api.OpLink, "/a", text), op(api.OpLink, text, text))
	}
	refuses(t, sample(), api.ErrNone, op(api.OpLink, "/none", "/new"), op(api.OpLink, "/d/none", "/new"), op(api.OpLink, "/none/a", "/new"), op(api.OpLink, "/a", "/none/new"), op(api.OpLink, "/a", "/d/none/new"))
	refuses(t, sample(), api.ErrNotDir, op(api.OpLink, "/a/b", "/new"), op(api.OpLink, "/d/e/f/g", "/new"), op(api.OpLink, "/a", "/z/new"), op(api.OpLink, "/a", "/a/new"), op(api.OpLink, "/a", "/z/new/more"))
	refuses(t, sample(), api.ErrIsDir, op(api.OpLink, "/", "/new"), op(api.OpLink, "/d", "/new"), op(api.OpLink, "/d/e/v", "/new"))
	refuses(t, sample(), api.ErrExists, op(api.OpLink, "/a", "/"), op(api.OpLink, "/a", "/a"), op(api.OpLink, "/a", "/z"), op(api.OpLink, "/a", "/d/a"), op(api.OpLink, "/a", "/d"), op(api.OpLink, "/a", "/d/e/v"))
}

// MaxLinks links: no more; with one less there is one more.
func TestLinkMaxLinks(t *testing.T) {
	refuses(t, crowded(), api.ErrLinks, op(api.OpLink, "/f", "/new"), op(api.OpLink, "/a/100", "/e/new"))
	row(t, crowded(), op(api.OpLink, "/g", "/new"))
	less := row(t, crowded(), op(api.OpUnlink, "/d/107"))
	refuses(t, row(t, less, op(api.OpLink, "/f", "/e/new")), api.ErrLinks, op(api.OpLink, "/e/new", "/new"))
	row(t, row(t, less, op(api.OpUnlink, "/f")), op(api.OpLink, "/a/100", "/new"), op(api.OpLink, "/new", "/f"))
}

// MaxEntries entries: no more; with one less there is one more.
func TestLinkMaxEntries(t *testing.T) {
	for n := 60; n <= 64; n++ {
		tree := of(append([]string{"/f", "/g", "/d/", "/e/"}, furtherTexts("/d", "/f", n)...)...)
		if n < 64 {
			row(t, tree, op(api.OpLink, "/g", "/d/new"), op(api.OpLink, "/d/new", "/e/new"))
			continue
		}
		refuses(t, tree, api.ErrMany, op(api.OpLink, "/g", "/d/new"), op(api.OpLink, "/f", "/d/new"), op(api.OpLink, "/d/100", "/d/new"))
		row(t, tree, op(api.OpLink, "/d/100", "/e/new"))
	}
	refuses(t, of(append([]string{"/f"}, furtherTexts("/", "/f", 63)...)...), api.ErrMany, op(api.OpLink, "/f", "/new"))
}

// Where two errors could be told, the first one is.
func TestLinkOrder(t *testing.T) {
	tree := crowded()
	refuses(t, tree, api.ErrName, op(api.OpLink, "/none", "new"), op(api.OpLink, "/f/x", ""), op(api.OpLink, "/a", "/."), op(api.OpLink, "", "/"), op(api.OpLink, "f", "/none/new"))
	refuses(t, tree, api.ErrNone, op(api.OpLink, "/none", "/"), op(api.OpLink, "/none", "/f/x"), op(api.OpLink, "/none", "/a/new"), op(api.OpLink, "/none", "/f"), op(api.OpLink, "/f", "/none/100"))
	refuses(t, tree, api.ErrNotDir, op(api.OpLink, "/f/x", "/"), op(api.OpLink, "/f/x", "/none/new"), op(api.OpLink, "/f/x", "/a/new"), op(api.OpLink, "/f", "/g/new"))
	refuses(t, tree, api.ErrIsDir, op(api.OpLink, "/", "/"), op(api.OpLink, "/a", "/"), op(api.OpLink, "/a", "/none/new"), op(api.OpLink, "/a", "/f/new"), op(api.OpLink, "/a", "/f"), op(api.OpLink, "/a", "/a/new"), op(api.OpLink, "/a", "/a"))
	refuses(t, tree, api.ErrExists, op(api.OpLink, "/f", "/"), op(api.OpLink, "/f", "/f"), op(api.OpLink, "/f", "/a/100"), op(api.OpLink, "/g", "/a/100"), op(api.OpLink, "/f", "/e"))
	refuses(t, tree, api.ErrLinks, op(api.OpLink, "/f", "/a/new"), op(api.OpLink, "/a/100", "/b/new"))
	refuses(t, tree, api.ErrMany, op(api.OpLink, "/g", "/a/new"), op(api.OpLink, "/c/x", "/b/new"))
}
