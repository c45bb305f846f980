package mac

import "tarmac/sha"

// blockSize is how many bytes a block of a key has.
const blockSize = 64

// block is an array, so that xoring the bytes of one leaves the others as they are.
type block [blockSize]byte

// blockOf is the block of a key.
func blockOf(key []byte) block {
	if len(key) > blockSize {
		d := sha.Of(key)
		key = d[:]
	}
	var b block
	copy(b[:], key)
	return b
}

// xoredBy is what makes, of a block, the one whose bytes are xored by x.
func xoredBy(x byte) func(block) block {
	return func(b block) block {
		for i := range len(b) {
			b[i] ^= x
		}
		return b
	}
}

// begun is a hash that begins with a block; the hash's promoted methods write behind it, and sum.
type begun struct{ *sha.Hash }

// begin is a hash to which the block was written.
func begin(with block) begun {
	h := begun{sha.New()}
	h.Write(with[:])
	return h
}
