package usage

import (
	"math"
	"slices"
	"testing"

	"moraine/api"
)

// walk chooses numbers by a fixed rule.
type walk struct{ state uint64 }

// below: a number below n.
func (w *walk) below(n int) int {
	w.state = w.state*6364136223846793005 + 1442695040888963407
	return int(w.state>>33) % n
}

// list: fewer than so many numbers, mostly from a bound on and below another one; sometimes a strange one.
func (w *walk) list(most, from, below, rare int) []int {
	var out []int
	for range w.below(most) {
		n := from + w.below(below-from)
		if w.below(rare) == 0 {
			n = strange()[w.below(len(strange()))]
		}
		out = append(out, n)
	}
	return out
}

// geometry: one of some that are right.
func (w *walk) geometry() api.Geometry {
	return geometries()[w.below(len(geometries()))]
}

// counts: counts of a kind: small ones, ones around D, any.
func (w *walk) counts(g api.Geometry) []int {
	d := placesOf(g)
	below := []int{2, 3, d/2 + 2, d + 2}[w.below(4)]
	return w.list(g.Segs+5, w.below(2), below, []int{30, 1 << 20}[w.below(2)])
}

// number: a number of segments or blocks; sometimes a strange one.
func (w *walk) number(below int) int {
	if w.below(30) == 0 {
		return strange()[w.below(len(strange()))]
	}
	return w.below(below)
}

// Many calls in many orders, one behind the other: each one answers what the plainest way does, and twice the same.
func TestWalks(t *testing.T) {
	w := &walk{state: 9}
	seen := make(map[string]int)
	for range 60000 {
		g := w.geometry()
		counts := w.counts(g)
		switch w.below(4) {
		case 0:
			w.count(t, g, seen)
		case 1:
			taken := w.list(8, -1, g.Segs+1, 30)
			want := plainFree(g, counts, taken)
			frees(t, g, counts, taken, want...)
			frees(t, g, counts, taken, want...)
			seen[some("free", len(want))]++
		case 2:
			taken := w.list(8, -1, g.Segs+1, 30)
			want := plainVictims(g, counts, taken)
			takes(t, g, counts, taken, want...)
			takes(t, g, counts, taken, want...)
			seen[some("victims", len(want))]++
		case 3:
			w.fits(t, g, counts, seen)
		}
	}
	for _, kind := range []string{"counts", "no counts", "some free", "none free", "some victims", "none victims", "fits", "doesn't fit"} {
		if seen[kind] < 100 {
			t.Errorf("%s: %d times", kind, seen[kind])
		}
	}
}

// some tells whether there are any of a kind.
func some(kind string, n int) string {
	if n > 0 {
		return "some " + kind
	}
	return "none " + kind
}

// count holds one list's Count against the plainest way's.
func (w *walk) count(t *testing.T, g api.Geometry, seen map[string]int) {
	t.Helper()
	addresses := w.list(20, 0, g.Segs*placesOf(g)+1, 60)
	want, ok := plainCount(g, addresses)
	if !ok {
		countsNothing(t, g, addresses)
		countsNothing(t, g, addresses)
		seen["no counts"]++
		return
	}
	counts(t, g, addresses, want...)
	counts(t, g, addresses, want...)
	seen["counts"]++
}

// fits holds Fits of some numbers against the plainest way's.
func (w *walk) fits(t *testing.T, g api.Geometry, counts []int, seen map[string]int) {
	t.Helper()
	old, data, more := w.number(6), w.number(placesOf(g)*g.Segs/2), w.number(placesOf(g)*6)
	want := plainFits(g, counts, old, data, more)
	fits(t, want, g, counts, old, data, more)
	fits(t, want, g, counts, old, data, more)
	seen[map[bool]string{true: "fits", false: "doesn't fit"}[want]]++
}

// P9.4 over many counts: of each kind, from those where one alone has all to those where all have the same.
func TestCleanableWalks(t *testing.T) {
	w := &walk{state: 4}
	held, there := 0, 0
	for range 60000 {
		g := w.geometry()
		counts := w.list(g.Segs+1, w.below(2), []int{2, 3, placesOf(g)/2 + 2, placesOf(g) + 1}[w.below(4)], 1<<30)
		above := len(counts) - len(slices.DeleteFunc(slices.Clone(counts), func(n int) bool { return n > 0 }))
		if above > inNeed(g, counts) {
			held++
		}
		if cleanable(t, g, counts) {
			there++
		}
	}
	if held < 1000 || there < held {
		t.Errorf("it is asked %d times, and there are victims %d times", held, there)
	}
}

// The plainest ways tell by themselves what the chapter says.
func TestPlainWays(t *testing.T) {
	g := small()
	if got, ok := plainCount(g, []int{1, 5, 6, 5, 0, 60}); !ok || !slices.Equal(got, []int{2, 1, 0, 0, 0, 0, 0, 0, 0, 0, 0, 1}) {
		t.Error(got, ok)
	}
	if got, ok := plainCount(g, []int{1, 61}); ok || got != nil {
		t.Error(got, ok)
	}
	if got := plainFree(g, []int{2, 0, 3, 4}, []int{4, 11}); !slices.Equal(got, []int{1, 5, 6, 7, 8, 9, 10}) {
		t.Error(got)
	}
	if got := plainVictims(g, []int{2, 0, 3, 4}, nil); !slices.Equal(got, []int{0, 2}) {
		t.Error(got)
	}
	if got := plainVictims(g, []int{2, 0, 3, 4}, []int{0}); got != nil {
		t.Error(got)
	}
	if !plainFits(g, []int{5, 0, 3, 1}, 3, 20, 10) || plainFits(g, []int{5, 0, 3, 1}, 4, 20, 10) || plainFits(g, nil, math.MaxInt, 0, math.MaxInt) || plainFits(g, nil, 0, -1, 0) {
		t.Error("plainFits")
	}
}
