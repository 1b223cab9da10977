package path

import (
	"strings"
	"testing"
)

// A name has 1 to 12 bytes, whichever they are.
func TestNameByLength(t *testing.T) {
	isName(t, false, "")
	for _, s := range []string{"a", "Z", " ", "\x01", "\x7f", "\x80", "\xff"} {
		for n := range 100 {
			isName(t, n >= 1 && n <= 12, strings.Repeat(s, n))
		}
		for _, n := range []int{255, 256, 257, 268, 1<<16 + 1, 1<<16 + 12, 1 << 20} {
			isName(t, false, strings.Repeat(s, n))
		}
	}
}

// Bytes are counted, not what they tell in UTF-8.
func TestNameCountsBytes(t *testing.T) {
	for n := range 14 {
		isName(t, n >= 1 && n <= 6, strings.Repeat("é", n))
		isName(t, n >= 1 && n <= 4, strings.Repeat("世", n))
		isName(t, n >= 1 && n <= 3, strings.Repeat("\U0001F600", n))
	}
	isName(t, true, "世世世abc")
	isName(t, false, "世世世abcd")
	isName(t, true, "世世世世")
	isName(t, false, "世世世世a")
	isName(t, false, "a世世世世")
}

// One or two dots alone are no name; more of them are, and dots with something else.
func TestNameOfDots(t *testing.T) {
	for n := range 20 {
		isName(t, n >= 3 && n <= 12, strings.Repeat(".", n))
	}
	for _, s := range []string{"..a", "a..", "a.", ".a", ".a.", "..a..", ". ", " .", ". .", ".. ", " ..", ".\x01", "..\x01", ".\xff", "\xff.", "..\xff", "\xff..", "a.b", "a..b", ".-", ",,", "\u2024", "\u2024\u2024", "\u2025"} {
		isName(t, true, s)
	}
	for _, s := range []string{".", "..", "./", "../", "/.", "/..", ".\x00", "..\x00", "\x00.", "\x00.."} {
		isName(t, false, s)
	}
}

// Each byte alone: all are names but 0, "/" and ".".
func TestNameOfOneByte(t *testing.T) {
	for b := range 256 {
		isName(t, b != 0 && b != '/' && b != '.', string([]byte{byte(b)}))
	}
}

// Each two bytes.
func TestNameOfTwoBytes(t *testing.T) {
	for n := range 1 << 16 {
		a, b := byte(n>>8), byte(n)
		want := a != 0 && a != '/' && b != 0 && b != '/' && (a != '.' || b != '.')
		isName(t, want, string([]byte{a, b}))
	}
}

// Each byte at each place of a name of each length, among letters, among dots and among what is no text in UTF-8: 0 and "/" make it none, wherever they are.
func TestNameWithEachByteAtEachPlace(t *testing.T) {
	for _, other := range []byte{'a', ' ', 0x80, 0xC3, 0xE4, 0xF0, 0xFF} {
		for n := 1; n <= 13; n++ {
			for at := range n {
				for b := range 256 {
					s := []byte(strings.Repeat(string([]byte{other}), n))
					s[at] = byte(b)
					isName(t, n <= 12 && b != 0 && b != '/' && (n > 1 || b != '.'), string(s))
				}
			}
		}
	}
	for n := 3; n <= 12; n++ {
		for at := range n {
			for b := range 256 {
				s := []byte(strings.Repeat(".", n))
				s[at] = byte(b)
				isName(t, b != 0 && b != '/', string(s))
			}
		}
	}
}

// Two of 0 and "/" don't make up for each other.
func TestNameWithMoreThanOneWrongByte(t *testing.T) {
	for n := 2; n <= 12; n++ {
		for at := range n {
			for also := range at {
				for _, pair := range []string{"\x00\x00", "//", "\x00/", "/\x00"} {
					s := []byte(strings.Repeat("a", n))
					s[at], s[also] = pair[0], pair[1]
					isName(t, false, string(s))
				}
			}
		}
		isName(t, false, strings.Repeat("/", n))
		isName(t, false, strings.Repeat("\x00", n))
	}
}

// What is no text in UTF-8 is a name, if its bytes are; what UTF-8 writes with other bytes is neither 0 nor "/".
func TestNameOfNoText(t *testing.T) {
	for _, s := range someNames() {
		isName(t, true, s)
	}
	for _, s := range []string{"\xc0\x80", "\xc0\xaf", "\xe0\x80\xaf", "\xf0\x80\x80\xaf", "\xe0\x80\x80", "\xed\xa0\x80", "\xed\xbf\xbf", "\xf4\x90\x80\x80", "\xc3", "\xe4\xb8", "\xf0\x9f\x98", "\xaf", "\x80\x80", "\xfe\xff", "\uFFFD", "\uFEFF", "\u2044", "\u2215", "\uFF0F", "\u2400"} {
		isName(t, true, s)
	}
	// The bytes behind one that begins a rune, and is left alone, count themselves.
	for _, start := range []string{"\xc3", "\xe4", "\xe4\xb8", "\xf0", "\xf0\x9f", "\xf0\x9f\x98", "\xff"} {
		isName(t, false, start+"/")
		isName(t, false, start+"\x00")
		isName(t, false, start+"/a")
		isName(t, false, start+"\x00a")
		isName(t, true, start+"0")
		isName(t, true, start+".")
	}
}

// Texts that are no names, long ones too.
func TestNameOfWhatIsNone(t *testing.T) {
	for _, s := range noNames() {
		isName(t, false, s)
	}
	for _, s := range slashed() {
		isName(t, false, s)
	}
	for _, s := range []string{"a", ".", "/", "\x00", "ab/"} {
		isName(t, false, strings.Repeat(s, 1<<20))
	}
}

// All texts of up to five of some bytes, against the plainest way.
func TestNameOfShortTexts(t *testing.T) {
	for _, s := range texts([]byte{'a', '.', '/', 0, 0xC3, ' '}, 5) {
		isName(t, plainName(s), s)
	}
}

// texts are all texts of so many bytes at most, each of them one of some.
func texts(bytes []byte, most int) []string {
	all := []string{""}
	longest := all
	for range most {
		var longer []string
		for _, s := range longest {
			for _, b := range bytes {
				longer = append(longer, s+string([]byte{b}))
			}
		}
		all, longest = append(all, longer...), longer
	}
	return all
}
