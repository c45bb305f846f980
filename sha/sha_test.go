package sha_test

import (
	"bytes"
	"crypto/sha256"
	"encoding/hex"
	"strings"
	"testing"

	"tarmac/api"
	"tarmac/sha"
)

// some is n bytes that do not repeat block by block.
func some(n int) []byte {
	b := make([]byte, n)
	x := uint32(n)
	for i := range b {
		x = x*1664525 + 1013904223
		b[i] = byte(x >> 24)
	}
	return b
}

// right is the digest by the library's own means, as an independent witness.
func right(b []byte) api.Digest { return api.Digest(sha256.Sum256(b)) }

// writeIn writes b to a new hash in pieces of that size.
func writeIn(b []byte, size int) *sha.Hash {
	h := sha.New()
	for len(b) > size {
		h.Write(b[:size])
		b = b[size:]
	}
	h.Write(b)
	return h
}

// P1.1, P1.3: the document's examples, and published ones.
func TestKnownDigests(t *testing.T) {
	for _, x := range []struct{ bytes, want string }{
		{"", "e3b0c44298fc1c149afbf4c8996fb92427ae41e4649b934ca495991b7852b855"},
		{"abc", "ba7816bf8f01cfea414140de5dae2223b00361a396177a9cb410ff61f20015ad"},
		{"abcdbcdecdefdefgefghfghighijhijkijkljklmklmnlmnomnopnopq", "248d6a61d20638b8e5c026930c3e6039a33ce45964ff2167f6ecedd419db06c1"},
		{"abcdefghbcdefghicdefghijdefghijkefghijklfghijklmghijklmnhijklmnoijklmnopjklmnopqklmnopqrlmnopqrsmnopqrstnopqrstu", "cf5b16a778af8380036ce59e7b0492370b249b11e8f07a51afac45037afee9d1"},
		{strings.Repeat("a", 1000000), "cdc76e5c9914fb9281a1c7e284d73e67f1809a48a497200e046d39ccc7112cd0"},
	} {
		if got := sha.Text(sha.Of([]byte(x.bytes))); got != x.want {
			t.Errorf("%d bytes: %s, want %s", len(x.bytes), got, x.want)
		}
	}
}

// P1.1: no bytes, be the list nil or empty.
func TestNoBytes(t *testing.T) {
	want := right(nil)
	for name, got := range map[string]api.Digest{
		"Of(nil)":     sha.Of(nil),
		"Of(empty)":   sha.Of([]byte{}),
		"New":         sha.New().Sum(),
		"Write(none)": writeIn([]byte{}, 1).Sum(),
	} {
		if got != want {
			t.Errorf("%s: %x, want %x", name, got, want)
		}
	}
}

// P1.1: every length through several blocks, so each way in which the last one is filled up.
func TestEveryLength(t *testing.T) {
	for n := range 5*64 + 2 {
		if b := some(n); sha.Of(b) != right(b) {
			t.Errorf("%d bytes: %x, want %x", n, sha.Of(b), right(b))
		}
	}
}

// P1.1: lengths whose number of bits fills one byte more, and those around.
func TestGreatLengths(t *testing.T) {
	for _, great := range []int{1 << 13, api.MaxBytes, 1 << 21} {
		for n := great - 9; n <= great+1; n++ {
			if b := some(n); sha.Of(b) != right(b) {
				t.Errorf("%d bytes: %x, want %x", n, sha.Of(b), right(b))
			}
		}
	}
}

// P1.1: from 2^29 bytes on the number of bits is beyond 32 bits.
func TestLengthBeyond32Bits(t *testing.T) {
	if testing.Short() {
		t.Skip("half a thousand million bytes")
	}
	h, want := sha.New(), sha256.New()
	piece := some(1 << 20)
	for range 1 << 9 {
		h.Write(piece)
		want.Write(piece)
	}
	h.Write([]byte{1})
	want.Write([]byte{1})
	if got := h.Sum(); got != api.Digest(want.Sum(nil)) {
		t.Errorf("%x, want %x", got, want.Sum(nil))
	}
}

// P1.1: bytes of one value only, those with the highest bit among them.
func TestEqualBytes(t *testing.T) {
	for _, v := range []byte{0, 1, 127, 128, 255} {
		for _, n := range []int{1, 55, 56, 63, 64, 65, 128} {
			if b := bytes.Repeat([]byte{v}, n); sha.Of(b) != right(b) {
				t.Errorf("%d bytes %d: %x, want %x", n, v, sha.Of(b), right(b))
			}
		}
	}
}

// P1.1, R2: one call leaves nothing behind for the next one.
func TestOfAgain(t *testing.T) {
	b := some(100)
	first := sha.Of(b)
	sha.Of(some(77))
	if again := sha.Of(b); again != first {
		t.Errorf("%x, then %x", first, again)
	}
}

// P1.2: Sum leaves the hash as it was: it may be asked again, and more may be written behind it.
func TestWriteBehindSum(t *testing.T) {
	for _, size := range []int{1, 7, 55, 56, 63, 64, 65, 130} {
		b := some(400)
		h := sha.New()
		for at := 0; at < len(b); {
			end := min(at+size, len(b))
			h.Write(b[at:end])
			at = end
			for range 2 {
				if got := h.Sum(); got != right(b[:at]) {
					t.Fatalf("pieces of %d, at %d: %x, want %x", size, at, got, right(b[:at]))
				}
			}
		}
	}
}

// P1.2: nothing of nil.
func TestNilHash(t *testing.T) {
	var h *sha.Hash
	if h.Sum() != (api.Digest{}) {
		t.Errorf("sum of nil: %x", h.Sum())
	}
	h.Write([]byte("abc"))
	h.Write(nil)
	if h.Sum() != (api.Digest{}) {
		t.Errorf("sum of nil behind a write: %x", h.Sum())
	}
}

// P1.2, R2: hashes do not touch each other.
func TestTwoHashes(t *testing.T) {
	a, b := sha.New(), sha.New()
	if a == nil || a == b {
		t.Fatal("no hashes, or one for both")
	}
	for i := range 150 {
		a.Write([]byte{byte(i)})
		b.Write([]byte{byte(200 - i), 9})
	}
	var one, two []byte
	for i := range 150 {
		one = append(one, byte(i))
		two = append(two, byte(200-i), 9)
	}
	if a.Sum() != right(one) || b.Sum() != right(two) {
		t.Error("one hash tells of the other one's bytes")
	}
}

// R3: what is written is not changed, nor the room behind its end, and is not kept.
func TestBytesAreTheCallers(t *testing.T) {
	for _, n := range []int{0, 1, 55, 63, 64, 65, 200} {
		room := some(n + 100)
		was := bytes.Clone(room)
		h := sha.New()
		h.Write(room[:n])
		sha.Of(room[:n])
		h.Sum()
		if !bytes.Equal(room, was) {
			t.Errorf("%d bytes: they or the room behind them were changed", n)
		}
		clear(room)
		if h.Sum() != right(was[:n]) {
			t.Errorf("%d bytes: the hash shows what the caller wrote later", n)
		}
	}
}

// P1.3: 64 signs, two a byte, the higher four bits first, small letters.
func TestText(t *testing.T) {
	var d api.Digest
	for i := range d {
		d[i] = byte(i)
	}
	if got, want := sha.Text(d), "000102030405060708090a0b0c0d0e0f101112131415161718191a1b1c1d1e1f"; got != want {
		t.Errorf("%s, want %s", got, want)
	}
	if got, want := sha.Text(api.Digest{}), strings.Repeat("0", 64); got != want {
		t.Errorf("%s, want %s", got, want)
	}
	for v := range 256 {
		for i := range d {
			d[i] = byte(v + 37*i)
		}
		if got := sha.Text(d); got != hex.EncodeToString(d[:]) {
			t.Errorf("%x: %s", d, got)
		}
	}
}

// P1.4: all ways to part bytes in two, and in three around the ends of blocks.
func TestPieces(t *testing.T) {
	b := some(260)
	want := right(b)
	for i := range len(b) + 1 {
		for _, j := range []int{i, i + 1, 63, 64, 65, 127, 128, 129, len(b)} {
			if j < i || j > len(b) {
				continue
			}
			h := sha.New()
			h.Write(b[:i])
			h.Write(b[i:j])
			h.Write(b[j:])
			if got := h.Sum(); got != want {
				t.Fatalf("parted at %d and %d: %x, want %x", i, j, got, want)
			}
		}
	}
}

// P1.4: pieces of one size, of all lengths; empty ones between say nothing.
func TestPiecesOfOneSize(t *testing.T) {
	for size := 1; size <= 130; size++ {
		for _, n := range []int{0, 1, 55, 56, 63, 64, 65, 119, 120, 127, 128, 129, 1000} {
			b := some(n)
			h := writeIn(b, size)
			h.Write(nil)
			h.Write([]byte{})
			if got := h.Sum(); got != right(b) {
				t.Errorf("%d bytes in pieces of %d: %x, want %x", n, size, got, right(b))
			}
		}
	}
}

// P1.4: digests that differ in one byte have unlike texts, whatever the byte and its place.
func TestUnlikeTexts(t *testing.T) {
	seen := map[string]api.Digest{}
	for at := range 32 {
		for v := range 256 {
			var d api.Digest
			d[at] = byte(v)
			text := sha.Text(d)
			if len(text) != 64 {
				t.Fatalf("%x: %d signs", d, len(text))
			}
			if other, there := seen[text]; there && other != d {
				t.Errorf("%x and %x have one text", other, d)
			}
			seen[text] = d
		}
	}
}
