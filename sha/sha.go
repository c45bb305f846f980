// Package sha is layer 1: SHA-256, the digest of bytes (see shared/doc/01-sha.md).
package sha

import "tarmac/api"

// blockSize is how many bytes are mixed in at once.
const blockSize = 64

// lengthSize is how many bytes at the end of the filled bytes tell their length.
const lengthSize = 8

// signs are those of a text, by their worth.
const signs = "0123456789abcdef"

// words are what the blocks are mixed into; an array, so that a copy of it is a state of its own.
type words [8]uint32

// Hash is a digest in the making.
type Hash struct {
	mixed words           // all whole blocks that were written, mixed
	rest  [blockSize]byte // its first count modulo 64 bytes wait for their block to become whole
	count uint64          // the bytes that were written
}

// New is a hash to which nothing was written.
func New() *Hash {
	return &Hash{mixed: beginning}
}

// Write writes b behind what was written.
func (h *Hash) Write(b []byte) {
	if h == nil {
		return
	}
	for len(b) > 0 {
		n := copy(h.rest[h.waiting():], b)
		b = b[n:]
		h.count += uint64(n)
		if h.waiting() == 0 {
			h.mixed = mix(h.mixed, h.rest)
		}
	}
}

// Sum is the digest of all that was written.
func (h *Hash) Sum() api.Digest {
	if h == nil {
		return api.Digest{}
	}
	filled := *h // a copy is filled up, so that more may be written behind what h has
	filled.fill()
	return digestOf(filled.mixed)
}

// Of is the digest of b.
func Of(b []byte) api.Digest {
	h := New()
	h.Write(b)
	return h.Sum()
}

// Text is the digest in signs, two a byte.
func Text(d api.Digest) string {
	var text [2 * len(d)]byte
	for i := range len(d) {
		text[2*i] = signs[d[i]>>4]
		text[2*i+1] = signs[d[i]&15]
	}
	return string(text[:])
}

// waiting is how many bytes of rest wait.
func (h *Hash) waiting() int {
	return int(h.count % blockSize)
}

// fill writes what the filled bytes have behind those that were written.
func (h *Hash) fill() {
	bits := 8 * h.count // taken ahead of the filling, which does not count
	var tail [blockSize + lengthSize]byte
	tail[0] = 128
	size := blockSize - h.waiting()
	if size <= lengthSize { // the byte 128 and the length do not both fit: the length stands in a block more
		size += blockSize
	}
	for i := range lengthSize {
		tail[size-1-i] = byte(bits >> (8 * i))
	}
	h.Write(tail[:size])
}

// digestOf is the words as bytes, the highest byte of each first.
func digestOf(w words) api.Digest {
	var d api.Digest
	for i := range len(d) {
		d[i] = byte(w[i/4] >> (24 - 8*(i%4)))
	}
	return d
}
