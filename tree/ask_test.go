package tree

import (
	"strings"
	"testing"

	"moraine/api"
)

// Kind, Links, and Size: bytes of a file, entries of a directory.
func TestStat(t *testing.T) {
	tree := sample()
	for path, want := range map[string]api.Result{
		"/":      {Kind: api.KDir, Links: 5, Size: 5},
		"/a":     {Kind: api.KFile, Links: 2, Size: 5},
		"/d":     {Kind: api.KDir, Links: 3, Size: 3},
		"/d/a":   {Kind: api.KFile, Links: 2, Size: 5},
		"/d/e":   {Kind: api.KDir, Links: 3, Size: 2},
		"/d/e/f": {Kind: api.KFile, Links: 1, Size: 0},
		"/d/e/v": {Kind: api.KDir, Links: 2, Size: 0},
		"/d/g":   {Kind: api.KFile, Links: 1, Size: 10},
		"/d.x":   {Kind: api.KDir, Links: 2, Size: 0},
	} {
		tells(t, tree, op(api.OpStat, path), want)
		tells(t, tree, api.Op{Kind: api.OpStat, Path: path, To: "no path", At: -1, N: -1, Data: []byte("data")}, want)
	}
	tells(t, crowded(), op(api.OpStat, "/f"), api.Result{Kind: api.KFile, Links: 200, Size: 4})
	tells(t, crowded(), op(api.OpStat, "/a"), api.Result{Kind: api.KDir, Links: 2, Size: 64})
	tells(t, crowded(), op(api.OpStat, "/"), api.Result{Kind: api.KDir, Links: 7, Size: 55})
	tells(t, of("/f:"+strings.Repeat("\x00", 46368)), op(api.OpStat, "/f"), api.Result{Kind: api.KFile, Links: 1, Size: 46368})
}

// The entries' names, by rising names.
func TestList(t *testing.T) {
	tree := sample()
	for path, want := range map[string][]string{
		"/":      {"a", "d", "d.x", "k", "z"},
		"/d":     {"a", "e", "g"},
		"/d/e":   {"f", "v"},
		"/d/e/v": nil,
		"/k":     nil,
	} {
		tells(t, tree, op(api.OpList, path), api.Result{Names: want})
		tells(t, tree, api.Op{Kind: api.OpList, Path: path, To: "no path", At: -1, N: -1, Data: []byte("data")}, api.Result{Names: want})
	}
	tells(t, of("/\xff", "/Z", "/\x80", "/10", "/9", "/z", "/é"), op(api.OpList, "/"), api.Result{Names: []string{"10", "9", "Z", "z", "\x80", "é", "\xff"}})
	tells(t, crowded(), op(api.OpList, "/b"), api.Result{Names: numberedTexts("", 64)})
	for _, path := range []string{"/a", "/d/a", "/d/e/f", "/z"} {
		refuses(t, tree, api.ErrNotDir, op(api.OpList, path))
	}
}

// OpSync asks for nothing, OpFsync for something at Path; both tell nothing.
func TestSync(t *testing.T) {
	for _, tree := range samples() {
		for _, path := range somePaths() {
			_, wrong := plainFind(tree, path)
			tells(t, tree, api.Op{Kind: api.OpSync, Path: path, To: path, At: -1, N: -1, Data: []byte("data")}, api.Result{})
			tells(t, tree, api.Op{Kind: api.OpFsync, Path: path, To: "no path", At: -1, N: -1, Data: []byte("data")}, api.Result{Err: wrong})
		}
	}
	for _, path := range []string{"/", "/a", "/d", "/d/e/v"} {
		tells(t, sample(), op(api.OpFsync, path), api.Result{})
	}
}

// What is asked of what isn't there.
func TestAskErrors(t *testing.T) {
	for _, kind := range []int{api.OpStat, api.OpList, api.OpFsync} {
		for _, text := range noTexts() {
			refuses(t, sample(), api.ErrName, op(kind, text))
		}
		refuses(t, sample(), api.ErrNone, op(kind, "/none"), op(kind, "/none/a"), op(kind, "/d/none"), op(kind, "/k/a"))
		refuses(t, sample(), api.ErrNotDir, op(kind, "/a/b"), op(kind, "/d/e/f/g/h"))
	}
}

// Operations that there are none of: ErrOp, whatever else may be wrong.
func TestNoOperation(t *testing.T) {
	for _, kind := range noKinds() {
		for _, tree := range []api.Tree{New(), sample(), crowded()} {
			for _, path := range []string{"/", "/a", "/none", "/a/b", "", "a", "/."} {
				refuses(t, tree, api.ErrOp, op(kind, path), op(kind, path, path), api.Op{Kind: kind, Path: path, At: -1, N: -1, Data: []byte("data")})
			}
		}
	}
}
