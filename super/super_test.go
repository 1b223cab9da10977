package super

import (
	"bytes"
	"math"
	"strconv"
	"testing"

	"moraine/api"
)

// superBy is a super of so many disks, rows and segments.
func superBy(disks, rows, segs int) api.Super {
	return api.Super{Geo: api.Geometry{Disks: disks, Rows: rows, Segs: segs}}
}

// mark is a mark of this Seq.
func mark(seq int) api.Mark {
	return api.Mark{Seq: seq}
}

// member is a member with these fields.
func member(epoch, slot, state int) api.Member {
	return api.Member{Epoch: epoch, Slot: slot, State: state}
}

// plain: a record by the plainest means: the bytes behind the first three, and noughts.
func plain(b ...byte) []byte {
	out := append([]byte{'M', 'O', 'R'}, b...)
	for len(out) < 64 {
		out = append(out, 0)
	}
	return out
}

// four: a number's four bytes by the plainest means.
func four(n int) []byte {
	return []byte{byte(n % 256), byte(n / 256 % 256), byte(n / 65536 % 256), byte(n / 16777216 % 256)}
}

// plainSuper: a super's record, its bytes being these.
func plainSuper(disks, rows, segs byte) []byte {
	return plain(1, disks, rows, segs)
}

// plainMark: a mark's record.
func plainMark(seq int) []byte {
	return plain(append([]byte{2}, four(seq)...)...)
}

// plainMember: a member's record.
func plainMember(epoch int, slot, state byte) []byte {
	return plain(append(append([]byte{3}, four(epoch)...), slot, state)...)
}

// isBoth holds a Put's answer against a record, and its Get's against what that tells.
func isBoth[T comparable](t *testing.T, put func(T) ([]byte, bool), get func([]byte) (T, bool), it T, b []byte) {
	t.Helper()
	if got, ok := put(it); !bytes.Equal(got, b) || !ok {
		t.Errorf("the record of %v: %v, %v, not %v", it, got, ok, b)
	}
	if got, ok := get(b); got != it || !ok {
		t.Errorf("what %v tells: %v, %v, not %v", b, got, ok, it)
	}
}

// isSuper holds both calls of a super against its record.
func isSuper(t *testing.T, s api.Super, b []byte) {
	t.Helper()
	isBoth(t, PutSuper, GetSuper, s, b)
}

// isMark holds both calls of a mark against its record.
func isMark(t *testing.T, m api.Mark, b []byte) {
	t.Helper()
	isBoth(t, PutMark, GetMark, m, b)
}

// isRightMember holds both calls of a member against its record.
func isRightMember(t *testing.T, m api.Member, b []byte) {
	t.Helper()
	isBoth(t, PutMember, GetMember, m, b)
}

// notPut holds a Put's answer against that where there is none.
func notPut[T any](t *testing.T, put func(T) ([]byte, bool), it T) {
	t.Helper()
	if b, ok := put(it); len(b) != 0 || ok {
		t.Errorf("the record of %v: %v, %v", it, b, ok)
	}
}

// notTold holds a Get's answer against that where there is none.
func notTold[T comparable](t *testing.T, get func([]byte) (T, bool), what string, b []byte) {
	t.Helper()
	var none T
	if got, ok := get(b); got != none || ok {
		t.Errorf("%s: what %v tells: %v, %v", what, b, got, ok)
	}
}

// noSuper, noMark and noMember hold each Get's answer against that where there is none.
func noSuper(t *testing.T, what string, b []byte) {
	t.Helper()
	notTold(t, GetSuper, what, b)
}

func noMark(t *testing.T, what string, b []byte) {
	t.Helper()
	notTold(t, GetMark, what, b)
}

func noMember(t *testing.T, what string, b []byte) {
	t.Helper()
	notTold(t, GetMember, what, b)
}

// noRecord holds all Gets' answers against those where there is none.
func noRecord(t *testing.T, what string, b []byte) {
	t.Helper()
	noSuper(t, what, b)
	noMark(t, what, b)
	noMember(t, what, b)
}

// records are records of each kind, and at which place each kind's fields end.
func records() []struct {
	name string
	b    []byte
	end  int
} {
	return []struct {
		name string
		b    []byte
		end  int
	}{
		{"a super", plainSuper(4, 2, 16), 7},
		{"another super", plainSuper(16, 4, 64), 7},
		{"a mark", plainMark(0x04030201), 8},
		{"a mark of 0", plainMark(0), 8},
		{"the greatest mark", plainMark(1<<32 - 1), 8},
		{"a member", plainMember(0x04030201, 15, 2), 10},
		{"a member of noughts", plainMember(0, 0, 0), 10},
		{"a member that joins", plainMember(1<<32-1, 3, 1), 10},
	}
}

// whole are numbers that 4 bytes hold: their ends, and numbers between whose bytes aren't alike.
func whole() []int {
	return []int{
		0, 1, 2, 255, 256, 258, 65535, 65536, 1<<24 - 1, 1 << 24, 0x04030201, 0x01020304,
		1 << 30, 1<<31 - 1, 1 << 31, 1<<31 + 1, 1<<32 - 2, 1<<32 - 1,
	}
}

// beyond are numbers that haven't 4 bytes, though those that they end with may be a number's.
func beyond() []int {
	return []int{
		1 << 32, 1<<32 + 1, 1<<32 + 258, 1 << 33, 1 << 40, 1 << 62, math.MaxInt - 1, math.MaxInt,
		-1, -2, -255, -256, -1 << 31, -1<<32 + 1, -1 << 32, -1<<32 + 258, -1 << 62, math.MinInt, math.MinInt + 1,
	}
}

// notShort are numbers that one byte doesn't hold, though the one that they end with is n.
func notShort(n int) []int {
	return []int{
		n + 256, n + 512, n + 1<<16, n + 1<<32, n + 1<<62,
		n - 256, n - 512, n - 1<<16, n - 1<<32, n + math.MinInt,
	}
}

// plainRight: is there such a geometry, by the plainest means?
func plainRight(disks, rows, segs int) bool {
	if disks < 3 || disks > 16 || rows < 1 || rows > 4 || segs < 12 || segs > 64 {
		return false
	}
	places := disks*rows - rows - 1
	other := 1
	for left := segs; left >= 8; left -= 8 {
		other++
	}
	return places*other >= 8
}

func TestExample(t *testing.T) {
	want := make([]byte, 64)
	copy(want, []byte{77, 79, 82, 2, 2, 1, 0, 0})
	if b, ok := PutMark(api.Mark{Seq: 258}); !bytes.Equal(b, want) || !ok {
		t.Error(b, ok)
	}
	if m, ok := GetMark(want); m != (api.Mark{Seq: 258}) || !ok {
		t.Error(m, ok)
	}
}

func TestEachKindsBytes(t *testing.T) {
	want := make([]byte, 64)
	copy(want, []byte{77, 79, 82, 1, 4, 2, 16})
	isSuper(t, superBy(4, 2, 16), want)
	want = make([]byte, 64)
	copy(want, []byte{77, 79, 82, 2, 1, 2, 3, 4})
	isMark(t, mark(0x04030201), want)
	want = make([]byte, 64)
	copy(want, []byte{77, 79, 82, 3, 1, 2, 3, 4, 5, 2})
	isRightMember(t, member(0x04030201, 5, api.Joined), want)
}

// Each geometry in a range that has all right ones, and some on each side, has a record just if it is right.
func TestEachGeometry(t *testing.T) {
	right := 0
	for disks := -2; disks <= 19; disks++ {
		for rows := -2; rows <= 7; rows++ {
			for segs := -2; segs <= 67; segs++ {
				s, b := superBy(disks, rows, segs), plainSuper(byte(disks), byte(rows), byte(segs))
				if plainRight(disks, rows, segs) {
					right++
					isSuper(t, s, b)
					continue
				}
				notPut(t, PutSuper, s)
				noSuper(t, "no right geometry", b)
			}
		}
	}
	if right < 2000 {
		t.Error("few are right:", right)
	}
}

// On each side of each bound of layer 3, all else being within its own.
func TestSuperAtTheBounds(t *testing.T) {
	for _, g := range [][3]int{
		{3, 4, 12}, {16, 4, 12}, {6, 1, 12}, {16, 1, 64}, {4, 4, 12}, {4, 4, 64}, {3, 4, 64}, {16, 4, 64},
		{3, 1, 56}, {4, 1, 24},
	} {
		isSuper(t, superBy(g[0], g[1], g[2]), plainSuper(byte(g[0]), byte(g[1]), byte(g[2])))
	}
	for _, g := range [][3]int{
		{2, 4, 64}, {17, 4, 64}, {0, 4, 64}, {16, 0, 64}, {16, 5, 64}, {16, 4, 11}, {16, 4, 65}, {16, 4, 0},
		{5, 1, 12}, {3, 1, 55}, {4, 1, 23}, {3, 1, 12}, {0, 0, 0}, {255, 255, 255}, {255, 2, 16}, {4, 255, 16}, {4, 2, 255},
	} {
		notPut(t, PutSuper, superBy(g[0], g[1], g[2]))
		noSuper(t, "no right geometry", plainSuper(byte(g[0]), byte(g[1]), byte(g[2])))
	}
}

// A number that ends with a right one's byte isn't that one.
func TestSuperHasNotItsWidth(t *testing.T) {
	for i, right := range []int{4, 2, 16} {
		for _, n := range append(notShort(right), math.MaxInt, math.MinInt, -1, -right, 1<<31, 1<<61) {
			f := [3]int{4, 2, 16}
			f[i] = n
			notPut(t, PutSuper, superBy(f[0], f[1], f[2]))
		}
	}
}

func TestEachMark(t *testing.T) {
	for _, n := range whole() {
		isMark(t, mark(n), plainMark(n))
	}
	for at := 4; at < 8; at++ {
		for x := range 256 {
			b := plainMark(0)
			b[at] = byte(x)
			isMark(t, mark(x<<(8*(at-4))), b)
		}
	}
}

func TestMarkHasNotItsWidth(t *testing.T) {
	for _, n := range beyond() {
		notPut(t, PutMark, mark(n))
	}
}

// plainMemberRight: are a member's Slot and State as told, by the plainest means?
func plainMemberRight(slot, state int) bool {
	switch state {
	case 0:
		return slot == 0
	case 1, 2:
		return slot >= 0 && slot <= 15
	}
	return false
}

// Each Slot with each State that a byte holds, and some below 0 and above.
func TestEachSlotAndState(t *testing.T) {
	for slot := -3; slot <= 260; slot++ {
		for state := -3; state <= 260; state++ {
			m, right := member(7, slot, state), plainMemberRight(slot, state)
			if right {
				isRightMember(t, m, plainMember(7, byte(slot), byte(state)))
			} else {
				notPut(t, PutMember, m)
			}
			if !right && slot >= 0 && slot <= 255 && state >= 0 && state <= 255 {
				noMember(t, "Slot or State", plainMember(7, byte(slot), byte(state)))
			}
		}
	}
}

// The states by their names, at the ends of Slot.
func TestStates(t *testing.T) {
	for _, m := range []api.Member{
		member(5, 0, api.Unused), member(5, 0, api.Joining), member(5, 15, api.Joining),
		member(5, 0, api.Joined), member(5, 15, api.Joined),
	} {
		isRightMember(t, m, plainMember(5, byte(m.Slot), byte(m.State)))
	}
	for _, m := range []api.Member{
		member(5, 1, api.Unused), member(5, 15, api.Unused), member(5, 16, api.Unused), member(5, 16, api.Joining),
		member(5, 16, api.Joined), member(5, 0, 3), member(5, 15, 3), member(5, 16, 3),
		member(5, -1, api.Unused), member(5, -1, api.Joining), member(5, -1, api.Joined), member(5, 0, -1), member(5, -1, -1),
	} {
		notPut(t, PutMember, m)
	}
}

func TestEachEpoch(t *testing.T) {
	for _, n := range whole() {
		isRightMember(t, member(n, 0, 0), plainMember(n, 0, 0))
		isRightMember(t, member(n, 15, 1), plainMember(n, 15, 1))
		isRightMember(t, member(n, 1, 2), plainMember(n, 1, 2))
	}
	for at := 4; at < 8; at++ {
		for x := range 256 {
			b := plainMember(0, 4, 1)
			b[at] = byte(x)
			isRightMember(t, member(x<<(8*(at-4)), 4, 1), b)
		}
	}
}

func TestMemberHasNotItsWidth(t *testing.T) {
	for _, n := range beyond() {
		for _, m := range []api.Member{member(n, 0, 0), member(n, 15, 1), member(n, 3, 2), member(n, 16, 3), member(n, n, n)} {
			notPut(t, PutMember, m)
		}
	}
	for _, n := range append(notShort(3), math.MaxInt, math.MinInt) {
		notPut(t, PutMember, member(1, n, 2))
	}
	for _, n := range append(notShort(2), math.MaxInt, math.MinInt) {
		notPut(t, PutMember, member(1, 3, n))
	}
	for _, n := range append(notShort(0), math.MaxInt, math.MinInt) {
		notPut(t, PutMember, member(1, 0, n))
		notPut(t, PutMember, member(1, n, 0))
	}
}

func TestOtherLengths(t *testing.T) {
	noRecord(t, "nil", nil)
	noRecord(t, "empty", []byte{})
	for _, r := range records() {
		long := append(bytes.Clone(r.b), make([]byte, 200)...)
		for n := range len(long) {
			if n != 64 {
				noRecord(t, r.name+" of "+strconv.Itoa(n), long[:n])
			}
		}
	}
	for _, n := range []int{63, 64, 65, 65536} {
		noRecord(t, "noughts", make([]byte, n))
		noRecord(t, "full", bytes.Repeat([]byte{255}, n))
	}
}

// Each of the first four bytes another one: the fourth one may make another kind of it, but no record that is right.
func TestOtherStarts(t *testing.T) {
	for _, r := range records() {
		for at := range 3 {
			for x := range 256 {
				b := bytes.Clone(r.b)
				b[at] = byte(x)
				if b[at] != r.b[at] {
					noRecord(t, r.name, b)
				}
			}
		}
		for x := range 256 {
			b := bytes.Clone(r.b)
			if b[3] = byte(x); x < 1 || x > 3 {
				noRecord(t, r.name, b)
			}
		}
	}
}

func TestRecordsOfOtherKinds(t *testing.T) {
	for _, r := range records() {
		if r.b[3] != 1 {
			noSuper(t, r.name, r.b)
		}
		if r.b[3] != 2 {
			noMark(t, r.name, r.b)
		}
		if r.b[3] != 3 {
			noMember(t, r.name, r.b)
		}
	}
}

// The number of the kind alone tells records apart that are else alike.
func TestKindsTellRecordsApart(t *testing.T) {
	b := plainMark(4 + 2<<8 + 16<<16)
	isMark(t, mark(4+2<<8+16<<16), b)
	noSuper(t, "a mark", b)
	b[3] = 1
	isSuper(t, superBy(4, 2, 16), b)
	noMark(t, "a super", b)
	b[3] = 3
	isRightMember(t, member(4+2<<8+16<<16, 0, 0), b)
	noMark(t, "a member", b)
	noSuper(t, "a member", b)
}

func TestBytesBehindTheFields(t *testing.T) {
	for _, r := range records() {
		for at := r.end; at < 64; at++ {
			for _, x := range []byte{1, 2, 77, 128, 255} {
				b := bytes.Clone(r.b)
				b[at] = x
				noRecord(t, r.name+", at "+strconv.Itoa(at), b)
			}
		}
	}
}

// Bytes that are else a record, with one field that isn't as told.
func TestGetsOfFieldsThatCannotBe(t *testing.T) {
	for x := range 256 {
		d, r, s := plainSuper(byte(x), 2, 16), plainSuper(4, byte(x), 16), plainSuper(4, 2, byte(x))
		if !plainRight(x, 2, 16) {
			noSuper(t, "Disks", d)
		}
		if !plainRight(4, x, 16) {
			noSuper(t, "Rows", r)
		}
		if !plainRight(4, 2, x) {
			noSuper(t, "Segs", s)
		}
		for state := range 256 {
			if !plainMemberRight(x, state) {
				noMember(t, "Slot, State", plainMember(1<<32-1, byte(x), byte(state)))
			}
		}
	}
}

// What the Gets take the Puts make again, of whatever bytes: a record's each byte turned to each other one.
func TestGetsAndPutsGoTogether(t *testing.T) {
	for _, r := range records() {
		for at := range 64 {
			for x := range 256 {
				b := bytes.Clone(r.b)
				b[at] = byte(x)
				if s, ok := GetSuper(b); ok {
					isSuper(t, s, b)
				}
				if m, ok := GetMark(b); ok {
					isMark(t, m, b)
				}
				if m, ok := GetMember(b); ok {
					isRightMember(t, m, b)
				}
			}
		}
	}
}
