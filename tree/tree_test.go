package tree

import (
	"bytes"
	"slices"
	"strconv"
	"strings"
	"testing"

	"moraine/api"
)

// noTexts are texts that are no paths.
func noTexts() []string {
	return []string{"", "a", "a/b", "//", "/a/", "//a", "/a//b", "/.", "/..", "/a/..", "/./a", "/\x00", "/a\x00", "/abcdefghijklm", "/a/abcdefghijklm", strings.Repeat("/x", 9), strings.Repeat("/x", 300), strings.Repeat("/x", 8) + "/"}
}

// kinds are those of all operations.
func kinds() []int {
	return []int{api.OpCreate, api.OpMkdir, api.OpLink, api.OpUnlink, api.OpRmdir, api.OpRename, api.OpRead, api.OpWrite, api.OpTrunc, api.OpStat, api.OpList, api.OpSync, api.OpFsync}
}

// noKinds are numbers of which there is no operation.
func noKinds() []int {
	return []int{0, 14, 15, 255, 256, 257, 1 << 32, 1<<32 + 1, 1<<32 + 12, -1, -12, -13, -1 << 31, 1<<63 - 1, -1 << 63}
}

// op is an operation with paths alone.
func op(kind int, paths ...string) api.Op {
	o := api.Op{Kind: kind, Path: paths[0]}
	if len(paths) > 1 {
		o.To = paths[1]
	}
	return o
}

// reading, writing and truncing are operations on a file's bytes.
func reading(path string, at, n int) api.Op {
	return api.Op{Kind: api.OpRead, Path: path, At: at, N: n}
}

func writing(path string, at int, data string) api.Op {
	return api.Op{Kind: api.OpWrite, Path: path, At: at, Data: []byte(data)}
}

func truncing(path string, n int) api.Op {
	return api.Op{Kind: api.OpTrunc, Path: path, N: n}
}

// of: the tree that has what some texts tell, in order: "/a/" a directory, "/a:xyz" a file of these bytes, "/b=/a" one entry more of the file "/a", "/a" an empty file.
func of(texts ...string) api.Tree {
	f := newFlat()
	for _, text := range texts {
		path, data, hasData := strings.Cut(text, ":")
		further, file, isFurther := strings.Cut(text, "=")
		switch {
		case hasData:
			f.make(path, api.KFile, []byte(data))
		case isFurther:
			f.at[further] = f.at[file]
		case strings.HasSuffix(text, "/"):
			f.make(text[:len(text)-1], api.KDir, nil)
		default:
			f.make(text, api.KFile, nil)
		}
	}
	return f.tree()
}

// numberedTexts are so many, of one beginning, that rise.
func numberedTexts(front string, n int) []string {
	var out []string
	for i := range n {
		out = append(out, front+strconv.Itoa(100+i))
	}
	return out
}

// furtherTexts: entries of a file, so many in a directory.
func furtherTexts(dir, file string, n int) []string {
	var out []string
	for _, text := range numberedTexts(below(dir), n) {
		out = append(out, text+"="+file)
	}
	return out
}

// sample: a tree with something of each kind.
func sample() api.Tree {
	return of("/a:hello", "/d/", "/d/e/", "/d/e/f", "/d/a=/a", "/d/g:0123456789", "/k/", "/z", "/d.x/", "/d/e/v/")
}

// deep: a tree with a path of 8 names, and beside it one that goes on where no path leads.
func deep() api.Tree {
	return of("/x/", "/x/x/", "/x/x/x/", "/x/x/x/x/", "/x/x/x/x/x/", "/x/x/x/x/x/x/", "/x/x/x/x/x/x/x/", "/x/x/x/x/x/x/x/x:end", "/x/x/x/x/x/x/x/y/", "/x/x/x/x/x/x/x/y/z/", "/x/x/x/x/x/x/x/y/z/y")
}

// crowded: a tree of MaxNodes nodes, with a file of MaxLinks entries, and directories of MaxEntries entries.
func crowded() api.Tree {
	texts := []string{"/a/", "/b/", "/c/", "/d/", "/e/", "/f:many", "/g:one"}
	texts = append(texts, furtherTexts("/a", "/f", 64)...)
	texts = append(texts, furtherTexts("/b", "/f", 64)...)
	texts = append(texts, furtherTexts("/c", "/f", 63)...)
	texts = append(texts, furtherTexts("/d", "/f", 8)...)
	texts = append(texts, "/c/x=/g")
	return of(append(texts, numberedTexts("/h", 48)...)...)
}

// samples are right trees.
func samples() []api.Tree {
	return []api.Tree{New(), of("/a"), of("/a/"), of("/a:x", "/b=/a"), sample(), deep(), crowded(), of(numberedTexts("/f", 55)...), chain(56), of("/f:" + strings.Repeat("x", 46368))}
}

// chain: a tree of so many directories, each in the one ahead of it.
func chain(n int) api.Tree {
	var t api.Tree
	for i := range n {
		t.Nodes = append(t.Nodes, api.Node{Kind: api.KDir, Links: 3, Entries: []api.Entry{{Name: "n", Ino: i + 1}}})
	}
	t.Nodes[n-1] = api.Node{Kind: api.KDir, Links: 2}
	return t
}

// same: are trees the same?
func same(a, b api.Tree) bool {
	return slices.EqualFunc(a.Nodes, b.Nodes, func(x, y api.Node) bool {
		return x.Kind == y.Kind && x.Links == y.Links && bytes.Equal(x.Data, y.Data) && slices.Equal(x.Entries, y.Entries)
	})
}

// alike: are answers the same?
func alike(a, b api.Result) bool {
	return a.Err == b.Err && bytes.Equal(a.Data, b.Data) && slices.Equal(a.Names, b.Names) && a.Kind == b.Kind && a.Links == b.Links && a.Size == b.Size
}

// copyOf: the same tree in memory of its own.
func copyOf(t api.Tree) api.Tree {
	out := api.Tree{Nodes: slices.Clone(t.Nodes)}
	for i, n := range out.Nodes {
		out.Nodes[i].Data, out.Nodes[i].Entries = bytes.Clone(n.Data), slices.Clone(n.Entries)
	}
	return out
}

// short: a tree's paths, or the first of them.
func short(t api.Tree) []string {
	if !plainRight(t) {
		return []string{"not right, of " + strconv.Itoa(len(t.Nodes)) + " nodes"}
	}
	var out []string
	for path, place := range flatOf(t).at {
		out = append(out, path+"="+strconv.Itoa(place))
	}
	slices.Sort(out)
	return out[:min(len(out), 20)]
}

// shortOp: an operation, with the beginning of its texts and bytes.
func shortOp(o api.Op) api.Op {
	o.Path, o.To, o.Data = o.Path[:min(len(o.Path), 40)], o.To[:min(len(o.To), 40)], o.Data[:min(len(o.Data), 20)]
	return o
}

// shortResult: an answer, with the beginning of its bytes and names.
func shortResult(r api.Result) api.Result {
	r.Data, r.Names = r.Data[:min(len(r.Data), 20)], r.Names[:min(len(r.Names), 20)]
	return r
}

// does holds what Do answers against the tree and the answer that are wanted; it tells the tree.
func does(t *testing.T, tree api.Tree, o api.Op, want api.Tree, answer api.Result) api.Tree {
	t.Helper()
	before := copyOf(tree)
	got, told := Do(tree, o)
	if !same(got, want) || !alike(told, answer) {
		t.Errorf("Do(%v, %v): %v, %v, not %v, %v", short(tree), shortOp(o), short(got), shortResult(told), short(want), shortResult(answer))
	}
	if !same(tree, before) {
		t.Errorf("Do(%v, %v): what was handed in is changed", short(before), shortOp(o))
	}
	if plainRight(tree) && (!Right(got) || !plainRight(got)) {
		t.Errorf("Do(%v, %v): the tree isn't right", short(tree), shortOp(o))
	}
	return got
}

// makes holds what Do answers against a tree that is wanted, without anything told.
func makes(t *testing.T, tree api.Tree, o api.Op, want api.Tree) api.Tree {
	t.Helper()
	return does(t, tree, o, want, api.Result{})
}

// tells holds what Do answers against an answer, the tree being as it was.
func tells(t *testing.T, tree api.Tree, o api.Op, answer api.Result) {
	t.Helper()
	does(t, tree, o, tree, answer)
}

// refuses holds what Do answers against an error, the tree being as it was.
func refuses(t *testing.T, tree api.Tree, wrong api.Errno, ops ...api.Op) {
	t.Helper()
	for _, o := range ops {
		tells(t, tree, o, api.Result{Err: wrong})
	}
}

// doesPlainly holds what Do answers against the plainest way; it tells the tree and the answer.
func doesPlainly(t *testing.T, tree api.Tree, o api.Op) (api.Tree, api.Result) {
	t.Helper()
	want, answer := plainDo(tree, o)
	return does(t, tree, o, want, answer), answer
}

// finds holds what Find answers against a place and an error.
func finds(t *testing.T, tree api.Tree, path string, place int, wrong api.Errno) {
	t.Helper()
	if got, told := Find(tree, path); got != place || told != wrong {
		t.Errorf("Find(%v, %q): %d, %d, not %d, %d", short(tree), path[:min(len(path), 40)], got, told, place, wrong)
	}
}

// row does operations one behind the other, each of which must be done, and tells the last tree.
func row(t *testing.T, tree api.Tree, ops ...api.Op) api.Tree {
	t.Helper()
	for _, o := range ops {
		var answer api.Result
		if tree, answer = doesPlainly(t, tree, o); answer.Err != api.OK {
			t.Errorf("%v: %d", shortOp(o), answer.Err)
		}
	}
	return tree
}

// The chapter's example.
func TestExample(t *testing.T) {
	tree, answer := Do(New(), op(api.OpMkdir, "/a"))
	if answer.Err != api.OK {
		t.Error(answer)
	}
	tree, answer = Do(tree, op(api.OpCreate, "/a/b"))
	if answer.Err != api.OK {
		t.Error(answer)
	}
	_, answer = Do(tree, op(api.OpList, "/a"))
	if answer.Err != api.OK || !slices.Equal(answer.Names, []string{"b"}) {
		t.Error(answer)
	}
	_, answer = Do(tree, op(api.OpRmdir, "/a"))
	if answer.Err != api.ErrFilled {
		t.Error(answer)
	}
}

// New: a directory without entries.
func TestNew(t *testing.T) {
	for range 2 {
		got := New()
		if !same(got, api.Tree{Nodes: []api.Node{{Kind: api.KDir, Links: 2}}}) || !Right(got) {
			t.Error(got)
		}
		finds(t, got, "/", 0, api.OK)
		tells(t, got, op(api.OpStat, "/"), api.Result{Kind: api.KDir, Links: 2})
		tells(t, got, op(api.OpList, "/"), api.Result{})
	}
}

// The trees of these tests are what they are taken for, and the plainest ways tell by themselves what the chapter says.
func TestPlainWays(t *testing.T) {
	want := api.Tree{Nodes: []api.Node{
		{Kind: api.KDir, Links: 3, Entries: []api.Entry{{Name: "b", Ino: 1}, {Name: "d", Ino: 2}, {Name: "e", Ino: 4}}},
		{Kind: api.KFile, Links: 2, Data: []byte("xyz")},
		{Kind: api.KDir, Links: 2, Entries: []api.Entry{{Name: "c", Ino: 3}, {Name: "k", Ino: 1}}},
		{Kind: api.KFile, Links: 1},
		{Kind: api.KFile, Links: 1, Data: []byte("!")},
	}}
	if got := of("/e:!", "/d/", "/d/k:xyz", "/d/c", "/b=/d/k"); !same(got, want) || !plainRight(got) {
		t.Errorf("%v", got)
	}
	for _, tree := range samples() {
		if !plainRight(tree) || !same(flatOf(tree).tree(), tree) {
			t.Errorf("%v", short(tree))
		}
	}
	full := flatOf(crowded())
	if full.nodes() != 56 || full.links("/f") != 200 || !full.full("/a/x") || !full.full("/b/x") || !full.full("/c/y") || full.full("/d/x") || full.full("/e/x") {
		t.Error(full.nodes(), full.links("/f"), len(full.in("/a")), len(full.in("/c")))
	}
	for _, text := range noTexts() {
		if plainPath(text) {
			t.Errorf("%q: a path", text)
		}
	}
	for _, text := range []string{"/", "/a", "/a/b", "/abcdefghijkl", strings.Repeat("/x", 8), "/...", "/\xff"} {
		if !plainPath(text) {
			t.Errorf("%q: no path", text)
		}
	}
	if len(deep().Nodes) != 12 || flatOf(deep()).wrong("/x/x/x/x/x/x/x/y/z") != api.ErrName {
		t.Error(short(deep()))
	}
}
