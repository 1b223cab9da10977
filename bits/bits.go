// Package bits is layer 1: numbers of a fixed width as bytes, and helpers on byte strings.
package bits

// maxWidth is the greatest width, in bytes.
const maxWidth = 4

// maxPad is the greatest length that Pad makes.
const maxPad = 65536

// Put: a number's bytes, the lowest first; none, if there is no such width, or the number hasn't it.
func Put(width, n int) []byte {
	if !isWidth(width) || !hasWidth(n, width) {
		return nil
	}
	out := make([]byte, width)
	for i := range out {
		out[i] = byte(n >> (8 * i))
	}
	return out
}

// Get: the number whose bytes stand at a place, and whether all of them are there.
func Get(b []byte, at, width int) (int, bool) {
	// The width is taken from the length, not added to the place: that sum could wrap round.
	if !isWidth(width) || at < 0 || at > len(b)-width {
		return 0, false
	}
	n := 0
	for i := range width {
		n |= int(b[at+i]) << (8 * i)
	}
	return n, true
}

// Nought: has it no byte but 0?
func Nought(b []byte) bool {
	for _, x := range b {
		if x != 0 {
			return false
		}
	}
	return true
}

// Xor: byte by byte the one or the other, exclusively; what the shorter one lacks counts as 0.
func Xor(a, b []byte) []byte {
	out := make([]byte, max(len(a), len(b)))
	copy(out, a)
	for i, x := range b {
		out[i] ^= x
	}
	return out
}

// Pad: the bytes and as many noughts as make n in all; none and false, if that can't be.
func Pad(b []byte, n int) ([]byte, bool) {
	if len(b) > n || n > maxPad {
		return nil, false
	}
	out := make([]byte, n)
	copy(out, b)
	return out, true
}

// isWidth: is there such a width?
func isWidth(width int) bool {
	return width >= 1 && width <= maxWidth
}

// hasWidth: is n 0 or more, and below 2^(8 width)?
func hasWidth(n, width int) bool {
	return n >= 0 && n < 1<<(8*width)
}
