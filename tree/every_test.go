package tree

import (
	"testing"

	"moraine/api"
)

// Each operation on each two of some paths, in trees of all kinds: what the plainest way makes of it. So all that could be wrong at once is, in all kinds of pairs.
func TestEveryPair(t *testing.T) {
	seen := make(map[api.Errno]int)
	for _, tree := range []api.Tree{New(), of("/a:x", "/b=/a"), sample(), deep(), crowded()} {
		for _, path := range somePaths() {
			for _, kind := range kinds() {
				for _, to := range tosOf(kind) {
					_, answer := doesPlainly(t, tree, op(kind, path, to))
					seen[answer.Err]++
				}
			}
		}
	}
	for _, wrong := range []api.Errno{api.OK, api.ErrName, api.ErrNone, api.ErrNotDir, api.ErrIsDir, api.ErrExists, api.ErrFilled, api.ErrLinks, api.ErrMany, api.ErrLoop} {
		if seen[wrong] < 10 {
			t.Errorf("%d: %d times", wrong, seen[wrong])
		}
	}
}

// tosOf: the paths to go on with, where an operation takes a second one.
func tosOf(kind int) []string {
	if kind == api.OpLink || kind == api.OpRename {
		return somePaths()
	}
	return []string{""}
}

// Each operation on bytes, at and beside each bound of a file's length, on what is a file and what isn't.
func TestEveryRange(t *testing.T) {
	seen := make(map[api.Errno]int)
	numbers := []int{-1 << 63, -1, 0, 1, 4, 5, 6, 56, 46362, 46363, 46364, 46367, 46368, 46369, 1<<63 - 1}
	for _, path := range []string{"/a", "/d/a", "/z", "/d", "/", "/none", "/a/b", ""} {
		for _, at := range numbers {
			ops := []api.Op{truncing(path, at)}
			for _, n := range numbers {
				ops = append(ops, reading(path, at, n))
			}
			for _, data := range []string{"", "x", "\x00", "xyzab", "xyzabc"} {
				ops = append(ops, writing(path, at, data))
			}
			for _, o := range ops {
				_, answer := doesPlainly(t, sample(), o)
				seen[answer.Err]++
			}
		}
	}
	for _, wrong := range []api.Errno{api.OK, api.ErrRange, api.ErrIsDir, api.ErrNone, api.ErrNotDir, api.ErrName} {
		if seen[wrong] < 100 {
			t.Errorf("%d: %d times", wrong, seen[wrong])
		}
	}
}
