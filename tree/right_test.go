package tree

import (
	"slices"
	"strings"
	"testing"

	"moraine/api"
)

// rights holds what Right answers against what is wanted; of a tree that isn't right Do and Find tell nothing but that.
func rights(t *testing.T, want bool, tree api.Tree) {
	t.Helper()
	if got := Right(tree); got != want {
		t.Errorf("Right(%v): %v", short(tree), got)
	}
	if plainRight(tree) != want {
		t.Errorf("plainRight(%v): %v", short(tree), !want)
	}
	if !want {
		isCorrupt(t, tree, op(api.OpSync, ""), op(api.OpStat, "/"), op(api.OpCreate, "/new"))
	}
}

// isCorrupt holds what Do and Find answer against no tree, and ErrCorrupt.
func isCorrupt(t *testing.T, tree api.Tree, ops ...api.Op) {
	t.Helper()
	for _, o := range ops {
		does(t, tree, o, api.Tree{}, api.Result{Err: api.ErrCorrupt})
	}
	for _, path := range []string{"/", "/a", "/none", "", "a"} {
		finds(t, tree, path, 0, api.ErrCorrupt)
	}
}

// file and dir are nodes: a file with some bytes, a directory with entries.
func file(links int, data string) api.Node {
	return api.Node{Kind: api.KFile, Links: links, Data: []byte(data)}
}

func dir(links int, entries ...api.Entry) api.Node {
	return api.Node{Kind: api.KDir, Links: links, Entries: entries}
}

// to is an entry.
func to(name string, place int) api.Entry {
	return api.Entry{Name: name, Ino: place}
}

// nodes is a tree of nodes.
func nodes(list ...api.Node) api.Tree {
	return api.Tree{Nodes: list}
}

// rooted is a tree of a root with some entries, and so many files of one link.
func rooted(files int, entries ...api.Entry) api.Tree {
	return nodes(append([]api.Node{dir(2, entries...)}, slices.Repeat([]api.Node{file(1, "")}, files)...)...)
}

// entries are so many, with names that rise, to the places from 1 on.
func entries(n int) []api.Entry {
	var out []api.Entry
	for i, text := range numberedTexts("n", n) {
		out = append(out, to(text, i+1))
	}
	return out
}

// oddKinds are numbers of no kind.
func oddKinds() []int {
	return []int{0, 3, 4, -1, -2, 255, 256, 257, 258, 1 << 32, 1<<32 + 1, 1<<32 + 2, 1 << 62, 1<<63 - 1, -1 << 63}
}

func TestRightSamples(t *testing.T) {
	for _, tree := range samples() {
		rights(t, true, tree)
	}
}

// No nodes, one, MaxNodes, one more, and very many.
func TestRightNodes(t *testing.T) {
	rights(t, false, api.Tree{})
	rights(t, false, api.Tree{Nodes: []api.Node{}})
	rights(t, false, nodes(api.Node{}))
	rights(t, false, nodes(dir(2), api.Node{}))
	for n := range 60 {
		rights(t, n <= 55, rooted(n, entries(n)...))
		if n > 0 {
			rights(t, n <= 56, chain(n))
		}
	}
	rights(t, false, rooted(1000, entries(64)...))
	rights(t, false, api.Tree{Nodes: make([]api.Node, 1<<16)})
}

// The root is a directory.
func TestRightRoot(t *testing.T) {
	for _, links := range []int{0, 1, 2} {
		rights(t, false, nodes(file(links, "")))
		rights(t, false, nodes(file(links, "x")))
	}
	rights(t, false, nodes(file(1, ""), dir(2, to("a", 0))))
	for _, kind := range oddKinds() {
		rights(t, false, nodes(api.Node{Kind: kind, Links: 2}))
		rights(t, false, nodes(api.Node{Kind: kind}))
	}
}

// A node of no kind, a file with entries, a directory with data.
func TestRightKinds(t *testing.T) {
	for _, kind := range oddKinds() {
		for _, links := range []int{0, 1, 2} {
			rights(t, false, nodes(dir(2, to("a", 1)), api.Node{Kind: kind, Links: links}))
			rights(t, false, nodes(dir(3, to("a", 1)), api.Node{Kind: kind, Links: links}))
		}
	}
	for _, links := range []int{1, 2, 3} {
		with := api.Node{Kind: api.KFile, Links: links, Entries: []api.Entry{to("b", 2)}}
		rights(t, false, nodes(dir(2, to("a", 1)), with, file(1, "")))
		rights(t, false, nodes(dir(3, to("a", 1)), with, file(1, "")))
		rights(t, false, nodes(dir(2, to("a", 1), to("b", 2)), with, file(2, "")))
	}
	for _, data := range []string{"\x00", "x", "xyz"} {
		full := dir(2)
		full.Data = []byte(data)
		rights(t, false, nodes(full))
		rights(t, false, nodes(dir(3, to("a", 1)), full))
	}
	hollow := api.Node{Kind: api.KFile, Links: 1, Data: []byte{}, Entries: []api.Entry{}}
	rights(t, true, nodes(api.Node{Kind: api.KDir, Links: 2, Data: []byte{}, Entries: []api.Entry{to("a", 1)}}, hollow))
	rights(t, true, nodes(api.Node{Kind: api.KDir, Links: 2, Data: make([]byte, 0, 9), Entries: make([]api.Entry, 0, 9)}))
}

// Data of MaxSize bytes and of one more.
func TestRightSizes(t *testing.T) {
	for size, want := range map[int]bool{0: true, 1: true, 56: true, 46367: true, 46368: true, 46369: false, 46424: false, 65536: false, 1 << 20: false} {
		rights(t, want, nodes(dir(2, to("a", 1)), file(1, strings.Repeat("x", size))))
		rights(t, want, nodes(dir(2, to("a", 1), to("b", 2)), file(1, ""), file(1, strings.Repeat("\x00", size))))
	}
}

// MaxEntries entries, one more, and very many: of one file, in the root and in another directory.
func TestRightEntries(t *testing.T) {
	for n := 1; n < 70; n++ {
		list := entries(n)
		for i := range list {
			list[i].Ino = 1
		}
		rights(t, n <= 64, nodes(dir(2, list...), file(n, "")))
		for i := range list {
			list[i].Ino = 2
		}
		rights(t, n <= 64, nodes(dir(3, to("a", 1)), dir(2, list...), file(n, "")))
	}
	rights(t, false, rooted(1, make([]api.Entry, 1<<16)...))
}

// Names that are none, alike, or fall.
func TestRightNames(t *testing.T) {
	for _, name := range []string{"a", "abcdefghijkl", "...", " ", "\xff", "世界世界"} {
		rights(t, true, rooted(1, to(name, 1)))
	}
	for _, name := range []string{"", ".", "..", "/", "a/b", "/a", "\x00", "a\x00", "abcdefghijklm", "世界世界a", strings.Repeat("a", 300)} {
		rights(t, false, rooted(1, to(name, 1)))
		rights(t, false, nodes(dir(3, to("a", 1)), dir(2, to(name, 2)), file(1, "")))
	}
	for _, pair := range [][2]string{{"a", "a"}, {"b", "a"}, {"ab", "a"}, {"a", "B"}, {"\x80", "z"}, {"é", "z"}, {"9", "10"}, {"abcdefghijkl", "abcdefghijkl"}} {
		rights(t, false, rooted(2, to(pair[0], 1), to(pair[1], 2)))
		rights(t, pair[0] != pair[1], rooted(2, to(pair[1], 1), to(pair[0], 2)))
		rights(t, false, nodes(dir(3, to("a", 1)), dir(2, to(pair[0], 2), to(pair[1], 3)), file(1, ""), file(1, "")))
	}
	rights(t, false, rooted(3, to("a", 1), to("c", 2), to("b", 3)))
	rights(t, true, rooted(3, to("a", 1), to("b", 2), to("c", 3)))
}

// Entries to place 0, below 0, to the last place, one beyond, and far away.
func TestRightPlaces(t *testing.T) {
	for place, want := range map[int]bool{0: false, -1: false, -2: false, 1: true, 2: false, 3: false, 55: false, 56: false, 57: false, 65537: false, 1<<32 + 1: false, 1<<63 - 1: false, -1 << 63: false, -1<<63 + 1: false} {
		rights(t, want, rooted(1, to("a", place)))
		rights(t, false, nodes(dir(2, to("a", place))))
	}
	for n := 1; n <= 55; n++ {
		for _, last := range []int{n - 1, n, n + 1} {
			list := entries(n)
			list[n-1].Ino = last
			rights(t, last == n, rooted(n, list...))
		}
	}
	rights(t, false, nodes(dir(3, to("a", 1)), dir(2, to("b", 0))))
	rights(t, false, nodes(dir(3, to("a", 1)), dir(3, to("b", 0))))
	rights(t, false, nodes(dir(3, to("a", 0))))
}

// Numbers out of the order in which the nodes are met.
func TestRightOrder(t *testing.T) {
	rights(t, true, rooted(2, to("a", 1), to("b", 2)))
	rights(t, false, rooted(2, to("a", 2), to("b", 1)))
	// What is in a directory comes ahead of what is behind it.
	rights(t, true, nodes(dir(3, to("a", 1), to("b", 3)), dir(2, to("c", 2)), file(1, ""), file(1, "")))
	rights(t, false, nodes(dir(3, to("a", 1), to("b", 2)), dir(2, to("c", 3)), file(1, ""), file(1, "")))
	// A file is numbered where it is met first.
	rights(t, true, nodes(dir(3, to("a", 1), to("b", 2)), dir(2, to("c", 2)), file(2, "")))
	rights(t, true, nodes(dir(3, to("a", 1), to("b", 2)), file(2, ""), dir(2, to("c", 1))))
	rights(t, false, nodes(dir(3, to("a", 2), to("b", 1)), dir(2, to("c", 2)), file(2, "")))
	rights(t, true, rooted(0))
	list := entries(5)
	for i := range list {
		for j := range list[:i] {
			turned := slices.Clone(list)
			turned[i].Ino, turned[j].Ino = list[j].Ino, list[i].Ino
			rights(t, false, rooted(5, turned...))
		}
	}
	rights(t, true, rooted(5, list...))
}

// Nodes that aren't met: files, directories, circles of their own, wherever they stand.
func TestRightMet(t *testing.T) {
	rights(t, false, nodes(dir(2), file(0, "")))
	rights(t, false, nodes(dir(2), file(1, "")))
	rights(t, false, nodes(dir(2), dir(2)))
	rights(t, false, nodes(dir(2, to("a", 1)), file(1, ""), file(0, "")))
	rights(t, false, nodes(dir(2, to("a", 2)), file(0, ""), file(1, "")))
	rights(t, false, nodes(dir(2), dir(3, to("a", 1))))
	rights(t, false, nodes(dir(2), dir(3, to("a", 2)), dir(3, to("b", 1))))
	rights(t, false, nodes(dir(2, to("a", 1)), file(1, ""), dir(3, to("a", 2))))
	rights(t, false, nodes(dir(2), dir(2, to("a", 2)), file(1, "")))
	rights(t, false, rooted(3, to("a", 1), to("b", 3)))
}

// A directory with two entries, the root with one, a directory within itself.
func TestRightCircles(t *testing.T) {
	rights(t, true, nodes(dir(3, to("a", 1)), dir(2)))
	rights(t, false, nodes(dir(3, to("a", 1), to("b", 1)), dir(2)))
	rights(t, false, nodes(dir(4, to("a", 1), to("b", 1)), dir(2)))
	rights(t, false, nodes(dir(4, to("a", 1), to("b", 2)), dir(3, to("c", 2)), dir(2)))
	rights(t, false, nodes(dir(4, to("a", 1), to("b", 2)), dir(2), dir(3, to("c", 1))))
	rights(t, false, nodes(dir(3, to("a", 0))))
	rights(t, false, nodes(dir(3, to("a", 1)), dir(3, to("b", 0))))
	rights(t, false, nodes(dir(3, to("a", 1)), dir(3, to("b", 1))))
	rights(t, false, nodes(dir(3, to("a", 1)), dir(2, to("b", 1))))
	rights(t, false, nodes(dir(3, to("a", 1)), dir(3, to("b", 2)), dir(3, to("c", 1))))
	circle := chain(56)
	circle.Nodes[55] = dir(3, to("n", 1))
	rights(t, false, circle)
}

// Links of a file: as many as it has entries, MaxLinks at most.
func TestRightLinks(t *testing.T) {
	for _, n := range []int{1, 2, 64, 65, 128, 199, 200, 201, 202, 256, 264} {
		var texts []string
		for at := 0; at < n; at += 64 {
			front := "/d" + string(rune('a'+at/64))
			texts = append(texts, front+"/")
			texts = append(texts, furtherTexts(front, "/f", min(64, n-at))...)
		}
		tree := of(append([]string{"/f"}, texts...)...)
		rights(t, n+1 <= 200, tree)
		// The same without the first entry.
		f := flatOf(of(append([]string{"/f"}, texts...)...))
		delete(f.at, "/f")
		rights(t, n <= 200, f.tree())
	}
	for links := -2; links < 6; links++ {
		rights(t, links == 1, nodes(dir(2, to("a", 1)), file(links, "")))
		rights(t, links == 2, nodes(dir(2, to("a", 1), to("b", 1)), file(links, "")))
		rights(t, links == 2, nodes(dir(links)))
		rights(t, links == 2, nodes(dir(links, to("a", 1)), file(1, "")))
		rights(t, links == 3, nodes(dir(links, to("a", 1)), dir(2)))
		rights(t, links == 2, nodes(dir(3, to("a", 1)), dir(links)))
		rights(t, links == 2, nodes(dir(3, to("a", 1)), dir(links, to("b", 2), to("c", 2)), file(2, "")))
		rights(t, links == 4, nodes(dir(links, to("a", 1), to("b", 2), to("c", 3)), dir(2), file(1, ""), dir(2)))
	}
	for _, links := range []int{1<<32 + 1, 257, 65537, 1<<63 - 1, -1 << 63} {
		rights(t, false, nodes(dir(2, to("a", 1)), file(links, "")))
		rights(t, false, nodes(dir(links+1)))
	}
	// In directories all of whose entries are files there may be more than MaxLinks entries of all together.
	rights(t, true, crowded())
}

// Each small tree: of each number of nodes up to four, each node a file or a directory with or without each of two entries to each place; with the links that are counted, and with one that is another.
func TestRightEachSmallTree(t *testing.T) {
	right := 0
	for count := 1; count <= 4; count++ {
		choices := 1 + count*count
		each := 1
		for range count {
			each *= choices
		}
		for number := range each {
			tree := smallTree(count, number)
			want := plainRight(tree)
			if Right(tree) != want {
				t.Fatalf("Right(%v): %v", tree, !want)
			}
			if !want {
				continue
			}
			right++
			for place := range count {
				for _, more := range []int{-1, 1} {
					tree.Nodes[place].Links += more
					if Right(tree) {
						t.Fatalf("Right(%v)", tree)
					}
					tree.Nodes[place].Links -= more
				}
			}
		}
	}
	// So many shapes of up to four nodes there are with the names a and b, counted by the plainest way.
	if right != 127 {
		t.Error(right)
	}
}

// smallTree: the tree of so many nodes with a number: each node's choice is a digit of it.
func smallTree(count, number int) api.Tree {
	choices := 1 + count*count
	tree := api.Tree{Nodes: make([]api.Node, count)}
	for place := range count {
		choice := number % choices
		number /= choices
		if choice == 0 {
			tree.Nodes[place].Kind = api.KFile
			continue
		}
		tree.Nodes[place].Kind = api.KDir
		for i, name := range []string{"a", "b"} {
			// Place 0 stands for no entry.
			if at := []int{(choice - 1) % count, (choice - 1) / count}[i]; at > 0 {
				tree.Nodes[place].Entries = append(tree.Nodes[place].Entries, to(name, at))
			}
		}
	}
	countLinks(tree)
	return tree
}

// countLinks gives all nodes the links that they have, whatever else may be wrong.
func countLinks(tree api.Tree) {
	for place := range tree.Nodes {
		n := &tree.Nodes[place]
		if n.Kind == api.KDir {
			n.Links += 2
		}
		for _, e := range n.Entries {
			if tree.Nodes[e.Ino].Kind == api.KFile {
				tree.Nodes[e.Ino].Links++
			} else {
				n.Links++
			}
		}
	}
}

// Each number of a right tree turned, each entry and each node left out or there twice: Right tells what the plainest way does.
func TestRightTurned(t *testing.T) {
	for _, tree := range []api.Tree{sample(), deep(), of("/a/", "/b", "/a/c=/b", "/a/d/", "/a/d/e:x")} {
		turns := turned(tree)
		wrong := 0
		for _, other := range turns {
			want := plainRight(other)
			rights(t, want, other)
			if !want {
				wrong++
			}
		}
		if wrong < len(turns)/2 || wrong == len(turns) {
			t.Errorf("%d of %d are wrong", wrong, len(turns))
		}
	}
}

// turned: trees beside a tree.
func turned(tree api.Tree) []api.Tree {
	var out []api.Tree
	add := func(turn func(other *api.Tree)) {
		other := copyOf(tree)
		turn(&other)
		out = append(out, other)
	}
	add(func(other *api.Tree) {})
	for place, n := range tree.Nodes {
		add(func(other *api.Tree) { other.Nodes = slices.Delete(other.Nodes, place, place+1) })
		add(func(other *api.Tree) { other.Nodes = slices.Insert(other.Nodes, place, n) })
		add(func(other *api.Tree) { other.Nodes[place].Kind = 3 - n.Kind })
		add(func(other *api.Tree) { other.Nodes[place].Data = append(other.Nodes[place].Data, 0) })
		for _, links := range []int{n.Links - 1, n.Links + 1, 0, 1, 2} {
			add(func(other *api.Tree) { other.Nodes[place].Links = links })
		}
		for i, e := range n.Entries {
			add(func(other *api.Tree) { other.Nodes[place].Entries = slices.Delete(other.Nodes[place].Entries, i, i+1) })
			add(func(other *api.Tree) { other.Nodes[place].Entries = slices.Insert(other.Nodes[place].Entries, i, e) })
			for _, name := range []string{"", ".", e.Name + "/", e.Name + "x", "\x01", "\xff"} {
				add(func(other *api.Tree) { other.Nodes[place].Entries[i].Name = name })
			}
			for at := -1; at <= len(tree.Nodes); at++ {
				add(func(other *api.Tree) { other.Nodes[place].Entries[i].Ino = at })
			}
		}
	}
	return out
}

// Of a tree that isn't right every operation answers none, and ErrCorrupt, also one that there is none of.
func TestDoOfNoRightTree(t *testing.T) {
	for _, tree := range []api.Tree{{}, nodes(api.Node{}), nodes(dir(3)), nodes(dir(2, to("a", 1))), rooted(2, to("a", 2), to("b", 1)), nodes(dir(2), file(1, "x")), rooted(56, entries(56)...), nodes(file(0, ""))} {
		for _, kind := range append(kinds(), noKinds()...) {
			isCorrupt(t, tree, op(kind, "/a", "/b"), op(kind, "/"), op(kind, ""), api.Op{Kind: kind, Path: "/a", At: -1, N: -1, Data: []byte("x")})
		}
	}
}
