package super

import (
	"bytes"
	"math"
	"slices"
	"testing"

	"moraine/api"
)

// hidden is what lies behind the length of the arguments, in their memory.
const hidden = 0xEE

// within: the bytes as a slice with room behind it, in memory that all is told of by the second result.
func within(b []byte) ([]byte, []byte) {
	all := append(bytes.Clone(b), bytes.Repeat([]byte{hidden}, 80)...)
	return all[:len(b)], all
}

// spoil turns all bytes of a list, and of its spare room.
func spoil(b []byte) {
	b = b[:cap(b)]
	for i := range b {
		b[i] ^= 0xFF
	}
}

// isNewestMark holds NewestMark's answer of a list, and of it the other way round, against a mark.
func isNewestMark(t *testing.T, what string, list [][]byte, want api.Mark) {
	t.Helper()
	if got := NewestMark(list); got != want {
		t.Errorf("NewestMark, %s: %v, not %v", what, got, want)
	}
	round := slices.Clone(list)
	slices.Reverse(round)
	if got := NewestMark(round); got != want {
		t.Errorf("NewestMark, %s, the other way round: %v, not %v", what, got, want)
	}
}

// isNewestMember holds NewestMember's answer of a list against a member.
func isNewestMember(t *testing.T, what string, list [][]byte, want api.Member) {
	t.Helper()
	if got := NewestMember(list); got != want {
		t.Errorf("NewestMember, %s: %v, not %v", what, got, want)
	}
}

// noMarks are bytes none of which are a mark, whatever number would stand in them.
func noMarks() [][]byte {
	turned, tail := plainMark(1<<32-1), plainMark(1<<32-1)
	turned[0]++
	tail[63] = 1
	return [][]byte{
		nil, {}, plainSuper(4, 2, 16), plainMember(1<<32-1, 15, 2), plainMember(0, 0, 0), turned, tail,
		plainMark(1<<32 - 1)[:63], append(plainMark(1<<32-1), 0), make([]byte, 64), bytes.Repeat([]byte{255}, 64),
	}
}

// noMembers are bytes none of which are a member, whatever number would stand in them.
func noMembers() [][]byte {
	turned, tail := plainMember(1<<32-1, 1, 1), plainMember(1<<32-1, 1, 1)
	turned[2]--
	tail[10] = 1
	return [][]byte{
		nil, {}, plainSuper(4, 2, 16), plainMark(1<<32 - 1), plainMark(0), turned, tail,
		plainMember(1<<32-1, 16, 1), plainMember(1<<32-1, 1, 0), plainMember(1<<32-1, 1, 3),
		plainMember(1<<32-1, 1, 2)[:63], append(plainMember(1<<32-1, 1, 2), 0), make([]byte, 64), bytes.Repeat([]byte{255}, 64),
	}
}

// putIn is a list with one more at a place.
func putIn(list [][]byte, at int, b []byte) [][]byte {
	return slices.Insert(slices.Clone(list), at, b)
}

func TestNewestOfNone(t *testing.T) {
	for _, list := range [][][]byte{nil, {}, {nil}, {{}}, noMarks()} {
		isNewestMark(t, "none", list, api.Mark{})
	}
	for _, list := range [][][]byte{nil, {}, {nil}, {{}}, noMembers()} {
		isNewestMember(t, "none", list, api.Member{})
	}
}

func TestNewestOfOne(t *testing.T) {
	for _, n := range whole() {
		isNewestMark(t, "one", [][]byte{plainMark(n)}, mark(n))
		isNewestMember(t, "one", [][]byte{plainMember(n, 3, 1)}, member(n, 3, 1))
	}
}

// One among others that are none of its kind, at each place, its number 0 too.
func TestNewestOfOneAmongOthers(t *testing.T) {
	for _, n := range []int{0, 1, 258, 1<<32 - 1} {
		for at := range len(noMarks()) + 1 {
			isNewestMark(t, "one among others", putIn(noMarks(), at, plainMark(n)), mark(n))
		}
		for at := range len(noMembers()) + 1 {
			isNewestMember(t, "one among others", putIn(noMembers(), at, plainMember(n, 9, 2)), member(n, 9, 2))
		}
	}
}

// The greatest one at each place of lists of each length, with others of its kind.
func TestNewestAtEachPlace(t *testing.T) {
	for _, top := range []int{40, 256, 65536, 1 << 24, 1 << 31, 1<<32 - 1} {
		for n := range 36 {
			var marks, members [][]byte
			for i := range n {
				marks = append(marks, plainMark(i*7%37))
				members = append(members, plainMember(i*7%37, byte(i%16), 2))
			}
			for at := range n + 1 {
				isNewestMark(t, "each place", putIn(marks, at, plainMark(top)), mark(top))
				isNewestMember(t, "each place", putIn(members, at, plainMember(top, 5, 1)), member(top, 5, 1))
			}
		}
	}
}

// All bytes of a number count, the last one most.
func TestNewestByTheWholeNumber(t *testing.T) {
	for _, n := range whole() {
		for _, m := range whole() {
			isNewestMark(t, "two", [][]byte{plainMark(n), plainMark(m)}, mark(max(n, m)))
			want := member(n, 1, 1)
			if m > n {
				want = member(m, 2, 2)
			}
			isNewestMember(t, "two", [][]byte{plainMember(n, 1, 1), plainMember(m, 2, 2)}, want)
		}
	}
}

func TestNewestOfTwoWithOneNumber(t *testing.T) {
	for _, n := range whole() {
		isNewestMark(t, "two alike", [][]byte{plainMark(n), plainMark(n)}, mark(n))
		isNewestMember(t, "two alike", [][]byte{plainMember(n, 1, 1), plainMember(n, 2, 2)}, member(n, 1, 1))
		isNewestMember(t, "two alike", [][]byte{plainMember(n, 2, 2), plainMember(n, 1, 1)}, member(n, 2, 2))
		isNewestMember(t, "two alike", [][]byte{plainMember(n, 0, 0), plainMember(n, 1, 1)}, member(n, 0, 0))
		isNewestMember(t, "two alike", [][]byte{plainMember(n, 15, 2), plainMember(n, 0, 0)}, member(n, 15, 2))
	}
}

// Two with the greatest Epoch at each two places of a list: the first one of them.
func TestNewestMemberIsTheFirstOne(t *testing.T) {
	var list [][]byte
	for i := range 8 {
		list = append(list, plainMember(i*3%8, 9, 1), plainMark(100))
	}
	for at := range len(list) + 1 {
		for behind := at + 1; behind < len(list)+2; behind++ {
			two := putIn(putIn(list, at, plainMember(50, 1, 2)), behind, plainMember(50, 2, 1))
			isNewestMember(t, "the first one", two, member(50, 1, 2))
		}
	}
}

// lists are each list of up to four of some records of both kinds, and of what is none.
func lists() [][][]byte {
	some := [][]byte{
		plainMark(0), plainMark(1), plainMark(256), plainMember(0, 0, 0), plainMember(0, 4, 1), plainMember(1, 5, 2),
		plainMember(256, 6, 1), plainMember(256, 7, 2), plainMember(256, 1, 0), plainSuper(4, 2, 16), nil,
	}
	out := [][][]byte{nil}
	for at := 0; at < len(out); at++ {
		for _, b := range some {
			if one := out[at]; len(one) < 4 {
				out = append(out, append(slices.Clone(one), b))
			}
		}
	}
	return out
}

// Each of the lists against a plain walk of it.
func TestNewestOfShortLists(t *testing.T) {
	for _, list := range lists() {
		var wantMark api.Mark
		var members []api.Member
		for _, b := range list {
			if m, ok := GetMark(b); ok {
				wantMark.Seq = max(wantMark.Seq, m.Seq)
			}
			if m, ok := GetMember(b); ok {
				members = append(members, m)
			}
		}
		var wantMember api.Member
		slices.SortStableFunc(members, func(a, b api.Member) int { return b.Epoch - a.Epoch })
		if len(members) > 0 {
			wantMember = members[0]
		}
		isNewestMark(t, "short lists", list, wantMark)
		isNewestMember(t, "short lists", list, wantMember)
	}
}

// puts are the Puts of records that can be, and of some that can't.
func puts() []func() ([]byte, bool) {
	return []func() ([]byte, bool){
		func() ([]byte, bool) { return PutSuper(superBy(4, 2, 16)) },
		func() ([]byte, bool) { return PutMark(mark(258)) },
		func() ([]byte, bool) { return PutMember(member(258, 3, 2)) },
		func() ([]byte, bool) { return PutSuper(superBy(4, 0, 16)) },
		func() ([]byte, bool) { return PutMark(mark(-1)) },
		func() ([]byte, bool) { return PutMember(member(258, 16, 2)) },
	}
}

// What the Puts answer is new memory each time, spare room too: P5.3 and P2.
func TestPutsAnswerNewMemory(t *testing.T) {
	for i, put := range puts() {
		first, ok := put()
		was := bytes.Clone(first)
		other, again := put()
		spoil(other)
		if !bytes.Equal(first, was) {
			t.Errorf("%d: two answers share memory", i)
		}
		spoil(first)
		if third, yes := put(); !bytes.Equal(third, was) || ok != again || ok != yes {
			t.Errorf("%d: an answer changes the next one: %v, %v, not %v, %v", i, third, yes, was, ok)
		}
	}
}

// The Gets look at the list alone, and leave its memory as it was.
func TestGetsLeaveWhatIsHandedIn(t *testing.T) {
	for _, r := range records() {
		for n := range 66 {
			b, all := within(append(bytes.Clone(r.b), 0, 0)[:n])
			before := bytes.Clone(all)
			s, isS := GetSuper(b)
			m, isM := GetMark(b)
			e, isE := GetMember(b)
			if !bytes.Equal(all, before) {
				t.Errorf("%s of %d: what was handed in was changed", r.name, n)
			}
			s2, isS2 := GetSuper(bytes.Clone(b))
			m2, isM2 := GetMark(bytes.Clone(b))
			e2, isE2 := GetMember(bytes.Clone(b))
			if s != s2 || m != m2 || e != e2 || isS != isS2 || isM != isM2 || isE != isE2 {
				t.Errorf("%s of %d: another answer of the same bytes", r.name, n)
			}
			if any := isS || isM || isE; any != (n == 64) {
				t.Errorf("%s of %d: %v", r.name, n, any)
			}
		}
	}
}

// A record whose last bytes lie behind a list's length isn't that list's.
func TestGetsLookAtTheListAlone(t *testing.T) {
	for _, r := range records() {
		all := append(bytes.Clone(r.b), make([]byte, 8)...)
		noRecord(t, r.name, all[:63])
		noRecord(t, r.name, all[:r.end])
		noRecord(t, r.name, all[:r.end-1])
		noRecord(t, r.name, all[:0])
	}
}

// The lists are as they were behind NewestMark and NewestMember, what lies behind their ends too; nothing of them is kept.
func TestNewestLeavesWhatIsHandedIn(t *testing.T) {
	var list, alls, before [][]byte
	for _, b := range [][]byte{
		nil, plainMark(5), plainMember(7, 1, 1), {}, plainMark(9)[:63], plainMark(9), plainSuper(4, 2, 16), plainMember(7, 2, 2), plainMember(9, 3, 0), plainMark(2),
	} {
		b, all := within(b)
		list, alls, before = append(list, b), append(alls, all), append(before, bytes.Clone(all))
	}
	behind := plainMark(1000)
	handed := append(slices.Clone(list), behind, plainMember(1000, 3, 1))[:len(list)]
	for range 2 {
		isNewestMember(t, "handed in", handed, member(7, 1, 1))
		if got := NewestMark(handed); got != mark(9) {
			t.Error(got)
		}
	}
	for i := range list {
		if !bytes.Equal(alls[i], before[i]) || len(handed[i]) != len(list[i]) || &alls[i][0] != &handed[i][:1][0] {
			t.Errorf("%d: what was handed in was changed", i)
		}
	}
	if over := handed[:len(list)+1]; &over[len(list)][0] != &behind[0] || !bytes.Equal(behind, plainMark(1000)) {
		t.Error("what lies behind the list was changed")
	}
	for _, all := range alls {
		spoil(all)
	}
	isNewestMark(t, "spoilt", handed, api.Mark{})
	isNewestMember(t, "spoilt", handed, api.Member{})
}

// Any arguments at all: each call ends, and none panics.
func TestAnyArguments(t *testing.T) {
	for i := range 64 {
		for _, n := range []int{1 << i, 1<<i - 1, -1 << i, -1<<i + 1, math.MinInt + 1<<i} {
			for _, f := range [][3]int{{n, n, n}, {n, 2, 16}, {4, n, 16}, {4, 2, n}, {n, n, 16}, {0, n, 2}, {0, 1, n}} {
				b, ok := PutSuper(superBy(f[0], f[1], f[2]))
				if s, back := GetSuper(b); back != ok || ok && s != superBy(f[0], f[1], f[2]) {
					t.Error("a super:", f, s, ok, back)
				}
				b, ok = PutMember(member(f[0], f[1], f[2]))
				if m, back := GetMember(b); back != ok || ok && m != member(f[0], f[1], f[2]) {
					t.Error("a member:", f, m, ok, back)
				}
			}
			b, ok := PutMark(mark(n))
			if m, back := GetMark(b); back != ok || ok && m != mark(n) || ok != (n >= 0 && n < 1<<32) {
				t.Error("a mark:", n, m, ok, back)
			}
		}
	}
}
