package dirent

import (
	"slices"
	"strings"
	"testing"

	"moraine/api"
)

// walk chooses entries by a fixed rule.
type walk struct {
	state uint64
	// list is the directory that is walked with; its names rise.
	list []api.Entry
	seen map[string]int
}

// below: a number below n.
func (w *walk) below(n int) int {
	w.state = w.state*6364136223846793005 + 1442695040888963407
	return int(w.state>>33) % n
}

// name: mostly a name, often a short one; sometimes what is none.
func (w *walk) name() string {
	switch w.below(20) {
	case 0:
		return someNames()[w.below(len(someNames()))]
	case 1:
		return noNames()[w.below(len(noNames()))]
	case 2:
		var out strings.Builder
		for range w.below(14) {
			out.WriteByte(byte(w.below(256)))
		}
		return out.String()
	default:
		return string([]byte{byte('a' + w.below(12)), byte('a' + w.below(8))})[w.below(2):]
	}
}

// ino: mostly a number that an entry may have.
func (w *walk) ino() int {
	if w.below(40) == 0 {
		return noInos()[w.below(len(noInos()))]
	}
	return 1 + w.below(56)
}

// entry: mostly one that is right.
func (w *walk) entry() api.Entry {
	if w.below(100) == 0 {
		return entry(w.name(), w.ino())
	}
	for {
		if e := entry(w.name(), 1+w.below(56)); plainName(e.Name) {
			return e
		}
	}
}

// saw counts what was seen of a kind.
func (w *walk) saw(kind string, is bool) {
	if !is {
		kind = "no " + kind
	}
	w.seen[kind]++
}

// put puts an entry, and finds it.
func (w *walk) put(t *testing.T) {
	e := w.entry()
	_, has := plainFind(w.list, e.Name)
	w.saw("put in place", has)
	want := plainPut(w.list, e)
	puts(t, w.list, e, want)
	w.list = Put(w.list, e)
	finds(t, w.list, e.Name, slices.Index(want, e), true)
}

// cut leaves out an entry, which mostly is there, and finds it no more.
func (w *walk) cut(t *testing.T) {
	name := w.name()
	if len(w.list) > 0 && w.below(2) == 0 {
		name = w.list[w.below(len(w.list))].Name
	}
	_, has := plainFind(w.list, name)
	w.saw("cut", has)
	cuts(t, w.list, name, plainCut(w.list, name))
	w.list = Cut(w.list, name)
	at, _ := plainFind(w.list, name)
	finds(t, w.list, name, at, false)
}

// find looks for a name.
func (w *walk) find(t *testing.T) {
	name := w.name()
	at, has := plainFind(w.list, name)
	w.saw("found", has)
	finds(t, w.list, name, at, has)
	finds(t, w.list, name, at, has)
}

// encode makes the list's bytes, twice, and reads them; or those of a list beside it.
func (w *walk) encode(t *testing.T) {
	list := w.list
	if len(list) > 0 && w.below(4) == 0 {
		list = with(list, w.below(len(list)), w.entry())
	}
	right := plainRight(list)
	w.saw("encoded", right)
	w.saw("full", len(list) > 60)
	if !right {
		encodesNot(t, list)
		encodesNot(t, list)
		return
	}
	want := plainBytes(list)
	encodes(t, list, want)
	encodes(t, list, want)
	decodes(t, want, list)
}

// decode reads the list's bytes, mostly with one turned, left out, or one more.
func (w *walk) decode(t *testing.T) {
	b := plainBytes(w.list)
	at := w.below(len(b) + 1)
	switch w.below(5) {
	case 0:
		b = slices.Insert(b, at, byte(w.below(256)))
	case 1:
		b = slices.Delete(b, min(at, max(len(b)-1, 0)), min(at+1, len(b)))
	case 2:
		b = b[:at]
	case 3:
		if at < len(b) {
			b[at] ^= byte(1 << w.below(8))
		}
	}
	ok := decodesAsPlain(t, b)
	w.saw("decoded", ok)
	decodesAsPlain(t, b)
	if ok {
		list, _ := Decode(b)
		encodes(t, list, b)
	}
}

// Many calls in many orders, one behind the other: each one answers what the plainest way does.
func TestWalks(t *testing.T) {
	seen := make(map[string]int)
	for round := range 40 {
		w := &walk{state: uint64(round), seen: seen}
		// How readily entries come decides how full the directory gets.
		ready := 3 + round%5
		for range 2000 {
			switch n := w.below(10); {
			case n < ready:
				w.put(t)
			case n < 7:
				w.cut(t)
			case n < 8:
				w.find(t)
			case n < 9:
				w.encode(t)
			default:
				w.decode(t)
			}
			// What isn't right is left out soon, so that lists are mostly right.
			for len(w.list) > 70 || len(w.list) > 0 && w.below(20) == 0 && !plainRight(w.list) {
				w.leaveOut(t)
			}
		}
	}
	for _, kind := range []string{"put in place", "no put in place", "cut", "no cut", "found", "no found", "encoded", "no encoded", "full", "no full", "decoded", "no decoded"} {
		if seen[kind] < 100 {
			t.Errorf("%s: %d times", kind, seen[kind])
		}
	}
}

// leaveOut cuts an entry that isn't right; any one, if all of them are.
func (w *walk) leaveOut(t *testing.T) {
	at := slices.IndexFunc(w.list, func(e api.Entry) bool { return !plainRight([]api.Entry{e}) })
	if at < 0 {
		at = w.below(len(w.list))
	}
	cuts(t, w.list, w.list[at].Name, without(w.list, at))
	w.list = Cut(w.list, w.list[at].Name)
}

// A row of calls by hand: none hangs on those ahead of it.
func TestCallsOneBehindTheOther(t *testing.T) {
	for range 3 {
		encodes(t, of("ab"), []byte{1, 0, 2, 97, 98})
		encodesNot(t, of("ab", "ab"))
		decodes(t, []byte{3, 0, 2, 97, 98}, []api.Entry{entry("ab", 3)})
		decodesNot(t, []byte{3, 0, 2, 97})
		decodes(t, nil, nil)
		finds(t, of("a", "c"), "b", 1, false)
		puts(t, of("a", "c"), entry("b", 5), []api.Entry{entry("a", 1), entry("b", 5), entry("c", 8)})
		finds(t, of("a", "c"), "b", 1, false)
		cuts(t, of("a", "c"), "a", []api.Entry{entry("c", 8)})
		finds(t, of("a", "c"), "a", 0, true)
		encodesNot(t, many(65))
		encodes(t, nil, nil)
		decodesNot(t, plainBytes(many(65)))
		encodes(t, of("ab"), []byte{1, 0, 2, 97, 98})
	}
}
