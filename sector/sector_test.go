package sector

import (
	"bytes"
	"math"
	"testing"

	"moraine/api"
)

// hidden is what lies behind the length of the arguments, in their memory.
const hidden = 0xEE

// within: the bytes as a slice with room behind it, in memory that all is told of by the second result.
func within(b []byte) ([]byte, []byte) {
	all := bytes.Repeat([]byte{hidden}, len(b)+70)
	copy(all, b)
	return all[:len(b)], all
}

// spoil turns all bytes of a list, and of its spare room.
func spoil(b []byte) {
	b = b[:cap(b)]
	for i := range b {
		b[i] ^= 0xFF
	}
}

// counting are so many bytes, no two neighbours alike, none of them 0.
func counting(n int) []byte {
	out := make([]byte, n)
	for i := range out {
		out[i] = byte(1 + i%255)
	}
	return out
}

// plain: a sector by the plainest means.
func plain(h api.Head, payload []byte) []byte {
	out := []byte{
		byte(h.Seq % 256), byte(h.Seq / 256 % 256), byte(h.Seq / 65536 % 256), byte(h.Seq / 16777216 % 256),
		byte(h.Owner % 256), byte(h.Owner / 256 % 256),
		byte(h.Index % 256), byte(h.Index / 256 % 256),
	}
	out = append(out, payload...)
	for len(out) < 64 {
		out = append(out, 0)
	}
	return out
}

// head is a head with these numbers.
func head(seq, owner, index int) api.Head {
	return api.Head{Seq: seq, Owner: owner, Index: index}
}

// rightHeads are heads, each number at its ends and between.
func rightHeads() []api.Head {
	var out []api.Head
	for _, seq := range []int{0, 1, 255, 256, 65536, 1 << 24, 0x04030201, 1 << 30, 1<<31 - 1, 1 << 31, 1<<32 - 1} {
		for _, owner := range []int{0, 1, 255, 256, 999, 0x0605, 65535} {
			for _, index := range []int{0, 1, 255, 256, 1100, 0x0807, 65535} {
				out = append(out, head(seq, owner, index))
			}
		}
	}
	return out
}

// beyond are numbers that haven't a width whose least number above it is this: one above, one below 0, and far ones.
func beyond(least int) []int {
	return []int{
		least, least + 1, 2 * least, 1 << 32, 1<<32 + 1, 1 << 62, math.MaxInt, math.MaxInt - 1,
		-1, -2, -least + 1, -least, -least - 1, -1 << 32, -1 << 62, math.MinInt, math.MinInt + 1,
	}
}

// notEncoded holds an answer of Encode against that where there is none.
func notEncoded(t *testing.T, h api.Head, payload []byte) {
	t.Helper()
	if b, ok := Encode(h, payload); len(b) != 0 || ok {
		t.Errorf("Encode(%v, %d bytes): %v, %v", h, len(payload), b, ok)
	}
}

// notDecoded holds an answer of Decode against that where there is none.
func notDecoded(t *testing.T, b []byte) {
	t.Helper()
	if h, payload, ok := Decode(b); h != (api.Head{}) || len(payload) != 0 || ok {
		t.Errorf("Decode(%d bytes): %v, %v, %v", len(b), h, payload, ok)
	}
}

func TestEncodeLaysSeqOwnerIndexPayload(t *testing.T) {
	want := make([]byte, 64)
	copy(want, []byte{1, 2, 3, 4, 5, 6, 7, 8, 9, 10, 11})
	if b, ok := Encode(head(0x04030201, 0x0605, 0x0807), []byte{9, 10, 11}); !bytes.Equal(b, want) || !ok {
		t.Error(b, ok)
	}
	copy(want, []byte{7, 0, 0, 0, 255, 255, 0, 0, 0, 0, 0})
	if b, ok := Encode(head(7, 65535, 0), nil); !bytes.Equal(b, want) || !ok {
		t.Error(b, ok)
	}
}

func TestRightHeadsThereAndBack(t *testing.T) {
	for _, h := range rightHeads() {
		payload := counting(56)
		b, ok := Encode(h, payload)
		if !bytes.Equal(b, plain(h, payload)) || !ok {
			t.Errorf("Encode(%v): %v, %v", h, b, ok)
		}
		if got, data, ok := Decode(b); got != h || !bytes.Equal(data, payload) || !ok {
			t.Errorf("Decode of %v: %v, %v, %v", h, got, data, ok)
		}
	}
}

// At 0 and at the greatest one of its width each number is taken, whatever the others are.
func TestHeadsAtTheEndsOfTheWidths(t *testing.T) {
	for _, h := range []api.Head{
		{}, head(1<<32-1, 0, 0), head(0, 65535, 0), head(0, 0, 65535), head(1<<32-1, 65535, 65535),
		head(0, 65535, 65535), head(1<<32-1, 0, 65535), head(1<<32-1, 65535, 0),
	} {
		if b, ok := Encode(h, []byte{5}); !bytes.Equal(b, plain(h, []byte{5})) || !ok {
			t.Errorf("Encode(%v): %v, %v", h, b, ok)
		}
	}
}

func TestSeqHasNotItsWidth(t *testing.T) {
	for _, n := range beyond(1 << 32) {
		notEncoded(t, head(n, 0, 0), nil)
		notEncoded(t, head(n, 65535, 65535), counting(56))
	}
}

func TestOwnerHasNotItsWidth(t *testing.T) {
	for _, n := range beyond(1 << 16) {
		notEncoded(t, head(0, n, 0), nil)
		notEncoded(t, head(1<<32-1, n, 65535), counting(56))
	}
}

func TestIndexHasNotItsWidth(t *testing.T) {
	for _, n := range beyond(1 << 16) {
		notEncoded(t, head(0, 0, n), nil)
		notEncoded(t, head(1<<32-1, 65535, n), counting(56))
	}
}

func TestSeveralNumbersHaveNotTheirWidth(t *testing.T) {
	for _, h := range []api.Head{
		head(-1, -1, -1), head(1<<32, 1<<16, 1<<16), head(-1, 65536, 0), head(0, -1, 65536), head(1<<32, 0, -1),
		head(math.MinInt, math.MaxInt, math.MinInt), head(math.MaxInt, math.MaxInt, math.MaxInt),
	} {
		notEncoded(t, h, nil)
		notEncoded(t, h, counting(57))
	}
}

func TestPayloads(t *testing.T) {
	h := head(1, 2, 3)
	for n := range 57 {
		for _, payload := range [][]byte{counting(n), make([]byte, n), bytes.Repeat([]byte{255}, n)} {
			b, ok := Encode(h, payload)
			if !bytes.Equal(b, plain(h, payload)) || !ok {
				t.Errorf("a payload of %d: %v, %v", n, b, ok)
			}
			got, data, ok := Decode(b)
			if got != h || !bytes.Equal(data, plain(h, payload)[8:]) || len(data) != 56 || !ok {
				t.Errorf("a payload of %d, back: %v, %v, %v", n, got, data, ok)
			}
		}
	}
}

func TestPayloadTooLong(t *testing.T) {
	for _, n := range []int{57, 58, 63, 64, 65, 1000, 65536, 65537} {
		for _, payload := range [][]byte{counting(n), make([]byte, n)} {
			notEncoded(t, head(1, 2, 3), payload)
			notEncoded(t, head(0, 0, 0), payload)
			notEncoded(t, head(-1, 2, 3), payload)
		}
	}
}

func TestNoPayload(t *testing.T) {
	for _, payload := range [][]byte{nil, {}} {
		if b, ok := Encode(api.Head{}, payload); !bytes.Equal(b, make([]byte, 64)) || !ok {
			t.Error(b, ok)
		}
	}
}

// Noughts are behind the payload, whatever lies there in its memory.
func TestEncodeLooksAtThePayloadAlone(t *testing.T) {
	for n := range 57 {
		payload, _ := within(counting(n))
		if b, ok := Encode(head(1, 2, 3), payload); !bytes.Equal(b, plain(head(1, 2, 3), counting(n))) || !ok {
			t.Errorf("a payload of %d: %v, %v", n, b, ok)
		}
	}
}

func TestDecode(t *testing.T) {
	b := counting(64)
	h, payload, ok := Decode(b)
	if h != head(0x04030201, 0x0605, 0x0807) || !bytes.Equal(payload, b[8:]) || !ok {
		t.Error(h, payload, ok)
	}
	h, payload, ok = Decode(make([]byte, 64))
	if h != (api.Head{}) || !bytes.Equal(payload, make([]byte, 56)) || !ok {
		t.Error("noughts:", h, payload, ok)
	}
	h, payload, ok = Decode(bytes.Repeat([]byte{255}, 64))
	if h != head(1<<32-1, 65535, 65535) || !bytes.Equal(payload, bytes.Repeat([]byte{255}, 56)) || !ok {
		t.Error("the greatest:", h, payload, ok)
	}
}

// Any 64 bytes are a sector; each byte comes to one thing alone.
func TestEachByteThereAndBack(t *testing.T) {
	for at := range 64 {
		for _, x := range []byte{1, 127, 128, 255} {
			b := make([]byte, 64)
			b[at] = x
			h, payload, ok := Decode(b)
			if !ok || !bytes.Equal(plain(h, payload), b) {
				t.Errorf("%d at %d: %v, %v, %v", x, at, h, payload, ok)
			}
			if got, ok := Encode(h, payload); !ok || !bytes.Equal(got, b) {
				t.Errorf("%d at %d, back: %v, %v", x, at, got, ok)
			}
		}
	}
}

func TestDecodeOfNoSector(t *testing.T) {
	notDecoded(t, nil)
	for n := range 200 {
		if n != 64 {
			notDecoded(t, counting(n))
			notDecoded(t, make([]byte, n))
		}
	}
	notDecoded(t, counting(65536))
}

// A list of fewer bytes isn't a sector, though its memory goes on.
func TestDecodeLooksAtTheListAlone(t *testing.T) {
	for _, n := range []int{0, 1, 8, 63} {
		b, _ := within(counting(n))
		notDecoded(t, b)
	}
	b, _ := within(counting(64))
	if h, payload, ok := Decode(b); h != head(0x04030201, 0x0605, 0x0807) || !bytes.Equal(payload, counting(64)[8:]) || !ok {
		t.Error(h, payload, ok)
	}
}

// isolated holds a call of one list against P4.3 and P2: its answer, spare room too, shares no memory with the list, nor with another answer.
func isolated(t *testing.T, what string, handed []byte, call func(b []byte) []byte) {
	t.Helper()
	b, all := within(handed)
	before := bytes.Clone(all)
	got, other := call(b), call(b)
	was := bytes.Clone(got)
	if !bytes.Equal(all, before) {
		t.Errorf("%s: what was handed in was changed", what)
	}
	if !bytes.Equal(other, got) {
		t.Errorf("%s: %v, then %v", what, got, other)
	}
	spoil(other)
	if !bytes.Equal(all, before) || !bytes.Equal(got, was) {
		t.Errorf("%s: what is answered is no new memory", what)
	}
	spoil(all)
	if !bytes.Equal(got, was) {
		t.Errorf("%s: what was handed in was kept", what)
	}
}

func TestEncodeAnswersNewMemory(t *testing.T) {
	for n := range 60 {
		isolated(t, "Encode", counting(n), func(b []byte) []byte {
			got, _ := Encode(head(1, 2, 3), b)
			return got
		})
	}
}

func TestDecodeAnswersNewMemory(t *testing.T) {
	for _, n := range []int{0, 63, 64, 65} {
		isolated(t, "Decode", counting(n), func(b []byte) []byte {
			_, got, _ := Decode(b)
			return got
		})
	}
}
