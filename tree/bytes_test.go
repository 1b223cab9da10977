package tree

import (
	"bytes"
	"strings"
	"testing"

	"moraine/api"
)

// great are numbers far beyond all that a file may have.
func great() []int {
	return []int{46369, 46424, 65536, 65537, 1 << 31, 1 << 32, 1<<32 + 1, 1 << 62, 1<<63 - 46368, 1<<63 - 2, 1<<63 - 1}
}

// least are numbers below 0.
func least() []int {
	return []int{-1, -2, -56, -46368, -1 << 31, -1 << 32, -1<<32 + 1, -1 << 62, -1<<63 + 1, -1 << 63}
}

// N bytes from At on, or as many as there are.
func TestRead(t *testing.T) {
	const text = "0123456789"
	tree := of("/f:"+text, "/e")
	for at := range 13 {
		for n := range 13 {
			begin := min(at, 10)
			tells(t, tree, reading("/f", at, n), api.Result{Data: []byte(text[begin:min(at+n, 10)][:max(0, min(n, 10-begin))])})
			tells(t, tree, reading("/e", at, n), api.Result{})
		}
		for _, n := range great() {
			tells(t, tree, reading("/f", at, n), api.Result{Data: []byte(text[min(at, 10):])})
			tells(t, tree, reading("/f", n, at), api.Result{})
			tells(t, tree, reading("/f", n, n), api.Result{})
			tells(t, tree, reading("/e", at, n), api.Result{})
		}
	}
	whole := strings.Repeat("abcdefgh", 5796)
	tree = of("/f:" + whole)
	tells(t, tree, reading("/f", 0, 46368), api.Result{Data: []byte(whole)})
	tells(t, tree, reading("/f", 0, 1<<63-1), api.Result{Data: []byte(whole)})
	tells(t, tree, reading("/f", 46367, 1<<63-1), api.Result{Data: []byte("h")})
	tells(t, tree, reading("/f", 46368, 1), api.Result{})
	tells(t, of("/f:x\x00y\x00"), reading("/f", 1, 9), api.Result{Data: []byte("\x00y\x00")})
	tells(t, tree, api.Op{Kind: api.OpRead, Path: "/f", To: "no path", At: 1, N: 3, Data: []byte("data")}, api.Result{Data: []byte("bcd")})
}

func TestReadErrors(t *testing.T) {
	for _, n := range least() {
		for _, other := range []int{0, 1, 5, 1<<63 - 1, n} {
			refuses(t, sample(), api.ErrRange, reading("/a", n, other), reading("/a", other, n), reading("/z", n, other), reading("/z", other, n))
		}
	}
}

// The bytes are there; what is beside them is as it was.
func TestWrite(t *testing.T) {
	tree := of("/f:0123456789")
	for at := range 14 {
		for n := 1; n < 14; n++ {
			data := strings.Repeat("x", n)
			want := append([]byte("0123456789"), make([]byte, 20)...)[:max(10, at+n)]
			copy(want[at:], data)
			does(t, tree, writing("/f", at, data), of("/f:"+string(want)), api.Result{Size: n})
		}
	}
	does(t, of("/f"), writing("/f", 0, "abc"), of("/f:abc"), api.Result{Size: 3})
	does(t, of("/f"), writing("/f", 3, "abc"), of("/f:\x00\x00\x00abc"), api.Result{Size: 3})
	does(t, of("/f:x"), writing("/f", 0, "\x00"), of("/f:\x00"), api.Result{Size: 1})
	does(t, of("/f:x", "/g=/f"), writing("/g", 1, "y"), of("/f:xy", "/g=/f"), api.Result{Size: 1})
	does(t, of("/f:x"), api.Op{Kind: api.OpWrite, Path: "/f", To: "no path", At: 1, N: -1, Data: []byte("yz")}, of("/f:xyz"), api.Result{Size: 2})
}

// Without bytes nothing happens, wherever that is.
func TestWriteNothing(t *testing.T) {
	for _, tree := range []api.Tree{of("/f"), of("/f:0123456789"), of("/f:" + strings.Repeat("x", 46368))} {
		for _, at := range []int{0, 1, 9, 10, 11, 46367, 46368} {
			tells(t, tree, writing("/f", at, ""), api.Result{})
			tells(t, tree, api.Op{Kind: api.OpWrite, Path: "/f", At: at, Data: []byte{}}, api.Result{})
		}
		for _, at := range append(great(), least()...) {
			refuses(t, tree, api.ErrRange, writing("/f", at, ""))
		}
	}
}

// Up to MaxSize bytes, and one more.
func TestWriteUpToMaxSize(t *testing.T) {
	for _, tree := range []api.Tree{of("/f"), of("/f:0123456789")} {
		for _, n := range []int{1, 2, 56, 46358, 46367, 46368} {
			data := strings.Repeat("x", n)
			at := 46368 - n
			want := append([]byte("0123456789")[:len(tree.Nodes[1].Data)], make([]byte, 46368)...)[:46368]
			copy(want[at:], data)
			does(t, tree, writing("/f", at, data), of("/f:"+string(want)), api.Result{Size: n})
			refuses(t, tree, api.ErrRange, writing("/f", at+1, data), writing("/f", at, data+"x"))
			for _, at := range append(great(), least()...) {
				refuses(t, tree, api.ErrRange, writing("/f", at, data))
			}
		}
		for _, n := range []int{46369, 65536, 1 << 20} {
			refuses(t, tree, api.ErrRange, writing("/f", 0, strings.Repeat("x", n)), writing("/f", 1<<63-1, strings.Repeat("x", n)), writing("/f", -1, strings.Repeat("x", n)))
		}
	}
}

// The first N bytes, or noughts behind the old end.
func TestTrunc(t *testing.T) {
	tree := of("/f:0123456789")
	for n := range 14 {
		want := append([]byte("0123456789"), make([]byte, 20)...)[:n]
		makes(t, tree, truncing("/f", n), of("/f:"+string(want)))
		makes(t, of("/f"), truncing("/f", n), of("/f:"+strings.Repeat("\x00", n)))
	}
	makes(t, tree, truncing("/f", 46367), of("/f:0123456789"+strings.Repeat("\x00", 46357)))
	makes(t, tree, truncing("/f", 46368), of("/f:0123456789"+strings.Repeat("\x00", 46358)))
	makes(t, of("/f:"+strings.Repeat("x", 46368)), truncing("/f", 46368), of("/f:"+strings.Repeat("x", 46368)))
	makes(t, of("/f:"+strings.Repeat("x", 46368)), truncing("/f", 0), of("/f"))
	makes(t, of("/f:xy", "/g=/f"), truncing("/g", 1), of("/f:x", "/g=/f"))
	makes(t, of("/f:xy"), api.Op{Kind: api.OpTrunc, Path: "/f", To: "no path", At: -1, N: 1, Data: []byte("data")}, of("/f:x"))
	for _, n := range append(great(), least()...) {
		refuses(t, tree, api.ErrRange, truncing("/f", n))
	}
}

// Behind an end that was cut there are noughts, when the file grows again; also where what was handed in has other bytes behind its end.
func TestNoughtsBehindACut(t *testing.T) {
	for cut := range 10 {
		front := "0123456789"[:cut]
		tree := row(t, of("/f:0123456789"), truncing("/f", cut))
		makes(t, tree, truncing("/f", 10), of("/f:"+front+strings.Repeat("\x00", 10-cut)))
		does(t, tree, writing("/f", 12, "x"), of("/f:"+front+strings.Repeat("\x00", 12-cut)+"x"), api.Result{Size: 1})
		memory := []byte("0123456789012")
		tree.Nodes[1].Data = memory[:cut]
		makes(t, tree, truncing("/f", 10), of("/f:"+front+strings.Repeat("\x00", 10-cut)))
		does(t, tree, writing("/f", 12, "x"), of("/f:"+front+strings.Repeat("\x00", 12-cut)+"x"), api.Result{Size: 1})
		if !bytes.Equal(memory, []byte("0123456789012")) {
			t.Error("the memory is changed")
		}
	}
}

// What must be a file: errors alone, and ahead of those of the numbers.
func TestBytesErrors(t *testing.T) {
	for _, n := range []int{0, 5, -1, 1<<63 - 1, -1 << 63} {
		for _, kind := range []int{api.OpRead, api.OpWrite, api.OpTrunc} {
			of := func(path string) api.Op { return api.Op{Kind: kind, Path: path, At: n, N: n, Data: []byte("x")} }
			for _, text := range noTexts() {
				refuses(t, sample(), api.ErrName, of(text))
			}
			refuses(t, sample(), api.ErrNone, of("/none"), of("/none/a"), of("/d/none"), of("/k/a"))
			refuses(t, sample(), api.ErrNotDir, of("/a/b"), of("/d/e/f/g/h"))
			refuses(t, sample(), api.ErrIsDir, of("/"), of("/d"), of("/k"), of("/d/e/v"))
		}
	}
}
