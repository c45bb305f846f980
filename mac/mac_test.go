package mac_test

import (
	"bytes"
	"crypto/hmac"
	"crypto/sha256"
	"strings"
	"testing"

	"tarmac/api"
	"tarmac/mac"
	"tarmac/sha"
)

// some is n bytes that do not repeat block by block, none of them a nought.
func some(n int) []byte {
	b := make([]byte, n)
	x := uint32(n)
	for i := range b {
		x = x*1664525 + 1013904223
		b[i] = byte(x>>24) | 1
	}
	return b
}

// right is the mac by the library's own means, as an independent witness.
func right(key, b []byte) api.Digest {
	h := hmac.New(sha256.New, key)
	h.Write(b)
	return api.Digest(h.Sum(nil))
}

// written is a pen under key to which the pieces were written.
func written(key []byte, pieces ...[]byte) *mac.Pen {
	p := mac.New(key)
	for _, b := range pieces {
		p.Write(b)
	}
	return p
}

// keySizes are lengths of keys around a digest's, a block's and two blocks'.
var keySizes = []int{0, 1, 20, 31, 32, 33, 62, 63, 64, 65, 66, 127, 128, 129, 131, 1000}

// P2.1: the document's examples, and published ones (RFC 4231).
func TestKnownMacs(t *testing.T) {
	counted := make([]byte, 25)
	for i := range counted {
		counted[i] = byte(i + 1)
	}
	for _, x := range []struct{ key, bytes, want string }{
		{strings.Repeat("\x0b", 20), "Hi There", "b0344c61d8db38535ca8afceaf0bf12b881dc200c9833da726e9376c2e32cff7"},
		{"Jefe", "what do ya want for nothing?", "5bdcc146bf60754e6a042426089575c75a003f089d2739839dec58b964ec3843"},
		{strings.Repeat("\xaa", 20), strings.Repeat("\xdd", 50), "773ea91e36800e46854db8ebd09181a72959098b3ef8c122d9635514ced565fe"},
		{string(counted), strings.Repeat("\xcd", 50), "82558a389a443c0ea4cc819899f2083a85f0faa3e578f8077a2e3ff46729665b"},
		{strings.Repeat("\xaa", 131), "Test Using Larger Than Block-Size Key - Hash Key First", "60e431591ee0b67f0d8a26aacbf5b77f8e0bc6213728c5140546040f0ee37f54"},
		{strings.Repeat("\xaa", 131), "This is a test using a larger than block-size key and a larger than block-size data. The key needs to be hashed before being used by the HMAC algorithm.", "9b09ffa71b942fcb27635fbcd5b0e944bfdc63644f0713938a7f51535c3a35e2"},
		{"", "", "b613679a0814d9ec772f95d778c35fc5ff1697c493715653c6c712144292c5ad"},
	} {
		if got := sha.Text(mac.Of([]byte(x.key), []byte(x.bytes))); got != x.want {
			t.Errorf("%q: %s, want %s", x.bytes, got, x.want)
		}
	}
}

// P2.1, P2.2: no key and no bytes, be the lists nil or empty.
func TestNothingGiven(t *testing.T) {
	want := right(nil, nil)
	for name, got := range map[string]api.Digest{
		"Of(nil, nil)":     mac.Of(nil, nil),
		"Of(empty, empty)": mac.Of([]byte{}, []byte{}),
		"New(nil)":         mac.New(nil).Sum(),
		"New(empty)":       mac.New([]byte{}).Sum(),
		"Write(nil)":       written(nil, nil, []byte{}).Sum(),
	} {
		if got != want {
			t.Errorf("%s: %x, want %x", name, got, want)
		}
	}
	if b := []byte("abc"); mac.Of(nil, b) != right(nil, b) || mac.Of(b, nil) != right(b, nil) {
		t.Error("a key without bytes, or bytes without a key")
	}
}

// P2.1: every length of a key through several blocks, and bytes around the ends of blocks.
func TestEveryKeyLength(t *testing.T) {
	for n := range 3*64 + 2 {
		key := some(n)
		for _, size := range []int{0, 1, 55, 56, 63, 64, 65, 300} {
			b := some(size)
			if got := mac.Of(key, b); got != right(key, b) {
				t.Errorf("a key of %d, %d bytes: %x, want %x", n, size, got, right(key, b))
			}
		}
	}
}

// P2.1: great keys and many bytes.
func TestGreat(t *testing.T) {
	key, b := some(100000), some(api.MaxBytes+1)
	if got := mac.Of(key, b); got != right(key, b) {
		t.Errorf("%x, want %x", got, right(key, b))
	}
}

// P2.1: each byte of a key, and of the bytes, counts.
func TestEachByteCounts(t *testing.T) {
	for _, n := range keySizes {
		key, b := some(n), some(70)
		was := mac.Of(key, b)
		for i := range key {
			key[i] ^= 128
			if mac.Of(key, b) == was {
				t.Errorf("a key of %d: byte %d does not count", n, i)
			}
			key[i] ^= 128
		}
		for i := range b {
			b[i] ^= 1
			if mac.Of(key, b) == was {
				t.Errorf("a key of %d: byte %d of those written does not count", n, i)
			}
			b[i] ^= 1
		}
	}
}

// P2.1, R2: one call leaves nothing behind for the next one.
func TestOfAgain(t *testing.T) {
	key, b := some(64), some(100)
	first := mac.Of(key, b)
	mac.Of(some(65), some(77))
	if again := mac.Of(key, b); again != first {
		t.Errorf("%x, then %x", first, again)
	}
}

// P2.1: alike ones are the same, zero ones too.
func TestSame(t *testing.T) {
	for n := range 100 {
		a, b := mac.Of(some(n), some(n)), right(some(n), some(n))
		if !mac.Same(a, b) || !mac.Same(b, a) {
			t.Errorf("%x and %x are not the same", a, b)
		}
	}
	if !mac.Same(api.Digest{}, api.Digest{}) {
		t.Error("zero digests are not the same")
	}
}

// P2.1: one bit in any place makes them unlike.
func TestUnlikeInOneBit(t *testing.T) {
	a := mac.Of(some(10), some(10))
	for at := range a {
		for bit := range 8 {
			b := a
			b[at] ^= 1 << bit
			if mac.Same(a, b) || mac.Same(b, a) {
				t.Errorf("byte %d, bit %d: the same", at, bit)
			}
		}
	}
}

// P2.1: what two bytes are unlike by does not cancel out, by xor or by sum, nor do bytes that changed places.
func TestUnlikeInTwoBytes(t *testing.T) {
	var zero api.Digest
	a := mac.Of(some(10), some(10))
	for i := range a {
		for j := range i {
			for _, by := range [][2]byte{{1, 1}, {128, 128}, {1, 255}, {255, 255}, {16, 240}} {
				b := zero
				b[i], b[j] = by[0], by[1]
				if mac.Same(zero, b) || mac.Same(b, zero) {
					t.Errorf("bytes %d and %d, by %v: the same", i, j, by)
				}
			}
			b := a
			b[i], b[j] = a[j], a[i]
			if mac.Same(a, b) != (a == b) {
				t.Errorf("bytes %d and %d changed places: %v", i, j, mac.Same(a, b))
			}
		}
	}
}

// P2.2: Sum leaves the pen as it was: it may be asked again, and more may be written behind it.
func TestWriteBehindSum(t *testing.T) {
	b := some(300)
	for _, n := range keySizes {
		key := some(n)
		for _, size := range []int{1, 7, 63, 64, 65, 130} {
			p := mac.New(key)
			for at := 0; at < len(b); {
				end := min(at+size, len(b))
				p.Write(b[at:end])
				at = end
				for range 2 {
					if got := p.Sum(); got != right(key, b[:at]) {
						t.Fatalf("a key of %d, pieces of %d, at %d: %x, want %x", n, size, at, got, right(key, b[:at]))
					}
				}
			}
		}
	}
}

// P2.2: a Sum ahead of all writes does not count either.
func TestSumFirst(t *testing.T) {
	for _, n := range keySizes {
		key := some(n)
		p := mac.New(key)
		if got := p.Sum(); got != right(key, nil) {
			t.Errorf("a key of %d: %x, want %x", n, got, right(key, nil))
		}
		p.Write([]byte("abc"))
		if got := p.Sum(); got != right(key, []byte("abc")) {
			t.Errorf("a key of %d, behind a sum: %x, want %x", n, got, right(key, []byte("abc")))
		}
	}
}

// P2.2: nothing of nil; and a pen that did not come from New does not panic.
func TestNoPen(t *testing.T) {
	var p *mac.Pen
	if p.Sum() != (api.Digest{}) {
		t.Errorf("sum of nil: %x", p.Sum())
	}
	p.Write([]byte("abc"))
	p.Write(nil)
	if p.Sum() != (api.Digest{}) {
		t.Errorf("sum of nil behind a write: %x", p.Sum())
	}
	bare := new(mac.Pen)
	bare.Write([]byte("abc"))
	bare.Sum()
}

// P2.2, R2: pens do not touch each other, under one key neither.
func TestTwoPens(t *testing.T) {
	key, other := some(64), some(65)
	pens := []*mac.Pen{mac.New(key), mac.New(key), mac.New(other)}
	for i := range 150 {
		for j, p := range pens {
			p.Write([]byte{byte(i * (j + 1))})
			p.Sum()
		}
	}
	for j, k := range [][]byte{key, key, other} {
		var all []byte
		for i := range 150 {
			all = append(all, byte(i*(j+1)))
		}
		if got := pens[j].Sum(); got != right(k, all) {
			t.Errorf("pen %d: %x, want %x", j, got, right(k, all))
		}
	}
}

// R3: the key and the bytes are not changed, nor the room behind their ends, and are not kept.
func TestBytesAreTheCallers(t *testing.T) {
	for _, n := range keySizes {
		for _, size := range []int{0, 1, 63, 64, 65, 200} {
			keyRoom, room := some(n+100), some(size+100)
			keyWas, was := bytes.Clone(keyRoom), bytes.Clone(room)
			p := mac.New(keyRoom[:n])
			p.Write(room[:size])
			p.Sum()
			mac.Of(keyRoom[:n], room[:size])
			if !bytes.Equal(keyRoom, keyWas) || !bytes.Equal(room, was) {
				t.Errorf("a key of %d, %d bytes: they or the room behind them were changed", n, size)
			}
			clear(keyRoom)
			clear(room)
			if p.Sum() != right(keyWas[:n], was[:size]) {
				t.Errorf("a key of %d, %d bytes: the pen shows what the caller wrote later", n, size)
			}
		}
	}
}

// P2.3: all ways to part bytes in two and, around the ends of blocks, in three; Of is the same.
func TestPieces(t *testing.T) {
	b := some(200)
	for _, n := range []int{0, 63, 64, 65} {
		key := some(n)
		want := right(key, b)
		if got := mac.Of(key, b); got != want {
			t.Errorf("a key of %d, at once: %x, want %x", n, got, want)
		}
		for i := range len(b) + 1 {
			for _, j := range []int{i, 63, 64, 65, 127, 128, 129, len(b)} {
				if j < i {
					continue
				}
				if got := written(key, b[:i], nil, b[i:j], b[j:]).Sum(); got != want {
					t.Fatalf("a key of %d, parted at %d and %d: %x, want %x", n, i, j, got, want)
				}
			}
		}
	}
}

// P2.3: byte by byte.
func TestByteByByte(t *testing.T) {
	for _, n := range keySizes {
		key, b := some(n), some(150)
		p := mac.New(key)
		for i := range b {
			p.Write(b[i : i+1])
		}
		if got := p.Sum(); got != right(key, b) {
			t.Errorf("a key of %d: %x, want %x", n, got, right(key, b))
		}
	}
}

// P2.3: noughts behind a key change nothing up to 64 bytes, and do with the 65th.
func TestNoughtsBehindKey(t *testing.T) {
	b := some(80)
	for n := range 65 {
		key := some(n)
		want := mac.Of(key, b)
		for more := range 65 - n {
			long := append(bytes.Clone(key), make([]byte, more)...)
			if got := mac.Of(long, b); got != want {
				t.Errorf("a key of %d and %d noughts: %x, want %x", n, more, got, want)
			}
			if got := written(long, b).Sum(); got != want {
				t.Errorf("a pen under a key of %d and %d noughts: %x, want %x", n, more, got, want)
			}
		}
		if mac.Of(append(bytes.Clone(key), make([]byte, 65-n)...), b) == want {
			t.Errorf("a key of %d and noughts up to 65 has the mac of the key alone", n)
		}
	}
}

// P2.3: noughts ahead of a key are of the key.
func TestNoughtsAheadOfKey(t *testing.T) {
	b := some(80)
	for n := 1; n < 64; n++ {
		key := some(n)
		if mac.Of(append([]byte{0}, key...), b) == mac.Of(key, b) {
			t.Errorf("a key of %d: a nought ahead of it does not count", n)
		}
	}
}

// P2.3: a key of more than 64 bytes has the mac of its digest; one of 64 has its own.
func TestKeyAndItsDigest(t *testing.T) {
	b := some(80)
	for n := range 200 {
		key := some(n)
		d := sha.Of(key)
		if alike := mac.Of(key, b) == mac.Of(d[:], b); alike != (n > 64) {
			t.Errorf("a key of %d has the mac of its digest: %v", n, alike)
		}
		if alike := written(key, b).Sum() == written(d[:], b).Sum(); alike != (n > 64) {
			t.Errorf("a pen under a key of %d has the mac of one under its digest: %v", n, alike)
		}
	}
}
