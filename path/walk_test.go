package path

import (
	"slices"
	"strings"
	"testing"

	"moraine/api"
)

// walk chooses texts by a fixed rule.
type walk struct{ state uint64 }

// below: a number below n.
func (w *walk) below(n int) int {
	w.state = w.state*6364136223846793005 + 1442695040888963407
	return int(w.state>>33) % n
}

// one: one of some texts.
func (w *walk) one(list []string) string {
	return list[w.below(len(list))]
}

// name: mostly a name, often a short one; sometimes what is none.
func (w *walk) name() string {
	switch w.below(12) {
	case 0:
		return w.one(someNames())
	case 1:
		if w.below(4) == 0 {
			return w.one(slices.Concat(noNames(), slashed()))
		}
		return w.any(13)
	default:
		return w.one([]string{"a", "b", "ab", "aa"})
	}
}

// any: bytes of any kind, fewer than so many.
func (w *walk) any(most int) string {
	var out strings.Builder
	for range w.below(most) {
		out.WriteByte([]byte{'a', '.', '/', 0, ' ', 0xFF, byte(w.below(256))}[w.below(7)])
	}
	return out.String()
}

// names: up to 9 names, mostly.
func (w *walk) names() []string {
	var out []string
	for range w.below([]int{3, 5, 10, 11}[w.below(4)]) {
		out = append(out, w.name())
	}
	return out
}

// path: mostly a path; sometimes another one with a byte more or fewer.
func (w *walk) path() string {
	path := textOf(w.names()...)
	if path == "" && w.below(8) > 0 {
		return "/"
	}
	at := w.below(len(path) + 1)
	switch w.below(20) {
	case 0:
		return path[:at] + "/" + path[at:]
	case 1:
		return path[:at] + path[min(at+1, len(path)):]
	case 2:
		return w.any(30)
	default:
		return path
	}
}

// beside: a path that begins with the same names as another one, mostly.
func (w *walk) beside(path string) string {
	names := strings.Split(path, "/")
	front := strings.Join(names[:1+w.below(len(names))], "/")
	switch w.below(4) {
	case 0:
		return front
	case 1:
		return path + "/" + w.name()
	case 2:
		return path + w.name()
	default:
		return w.path()
	}
}

// Many calls in many orders, one behind the other: each one answers what the plainest way does, and twice the same.
func TestWalks(t *testing.T) {
	w := &walk{state: 10}
	seen := make(map[string]int)
	for range 200000 {
		switch w.below(4) {
		case 0:
			s := w.name()
			isName(t, plainName(s), s)
			isName(t, plainName(s), s)
			seen[some("name", plainName(s))]++
		case 1:
			w.split(t, seen)
		case 2:
			w.join(t, seen)
		case 3:
			path := w.path()
			above := w.beside(path)
			if w.below(4) == 0 {
				path, above = above, path
			}
			want := plainWithin(path, above)
			within(t, want, path, above)
			within(t, want, path, above)
			seen[some("within", want)]++
		}
	}
	for _, kind := range []string{"name", "no name", "split", "no split", "join", "no join", "within", "no within", "8 names"} {
		if seen[kind] < 100 {
			t.Errorf("%s: %d times", kind, seen[kind])
		}
	}
}

// some tells whether there is one of a kind.
func some(kind string, is bool) string {
	if is {
		return kind
	}
	return "no " + kind
}

// split holds one text's Split against the plainest way's, and Join of that against the text.
func (w *walk) split(t *testing.T, seen map[string]int) {
	t.Helper()
	path := w.path()
	want, err := plainSplit(path)
	seen[some("split", err == api.OK)]++
	if err != api.OK {
		splitsNot(t, path)
		splitsNot(t, path)
		return
	}
	splits(t, path, want...)
	splits(t, path, want...)
	joins(t, path, want...)
	if len(want) == 8 {
		seen["8 names"]++
	}
}

// join holds one list's Join against the plainest way's, and Split of that against the list.
func (w *walk) join(t *testing.T, seen map[string]int) {
	t.Helper()
	names := w.names()
	want, err := plainJoin(names)
	seen[some("join", err == api.OK)]++
	if err != api.OK {
		joinsNot(t, names...)
		joinsNot(t, names...)
		return
	}
	joins(t, want, names...)
	joins(t, want, names...)
	splits(t, want, names...)
}

// A row of calls by hand: none hangs on those ahead of it.
func TestCallsOneBehindTheOther(t *testing.T) {
	for range 3 {
		splits(t, "/a/b", "a", "b")
		splitsNot(t, "/a/b/")
		splits(t, "/")
		splitsNot(t, "")
		splits(t, "/a/b", "a", "b")
		joins(t, "/a/b", "a", "b")
		joinsNot(t, "a", "/b")
		joins(t, "/")
		joinsNot(t, letters(9)...)
		joins(t, "/a/b", "a", "b")
		within(t, true, "/a/b", "/a")
		within(t, false, "/a", "/a/b")
		within(t, true, "/a/b", "/")
		within(t, false, "/ab", "/a")
		within(t, false, "/a/", "/a")
		within(t, true, "/a/b", "/a/b")
		isName(t, true, "a")
		isName(t, false, "..")
		isName(t, true, "...")
	}
}
