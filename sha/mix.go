package sha

// beginning is what the first block is mixed into: of the first eight primes the first 32 bits of the fractional part of the square root.
var beginning = words{
	0x6a09e667, 0xbb67ae85, 0x3c6ef372, 0xa54ff53a, 0x510e527f, 0x9b05688c, 0x1f83d9ab, 0x5be0cd19,
}

// rounds is how many words are mixed in for each block.
const rounds = 64

// constants are, of the first 64 primes, the first 32 bits of the fractional part of the cube root.
var constants = [rounds]uint32{
	0x428a2f98, 0x71374491, 0xb5c0fbcf, 0xe9b5dba5, 0x3956c25b, 0x59f111f1, 0x923f82a4, 0xab1c5ed5,
	0xd807aa98, 0x12835b01, 0x243185be, 0x550c7dc3, 0x72be5d74, 0x80deb1fe, 0x9bdc06a7, 0xc19bf174,
	0xe49b69c1, 0xefbe4786, 0x0fc19dc6, 0x240ca1cc, 0x2de92c6f, 0x4a7484aa, 0x5cb0a9dc, 0x76f988da,
	0x983e5152, 0xa831c66d, 0xb00327c8, 0xbf597fc7, 0xc6e00bf3, 0xd5a79147, 0x06ca6351, 0x14292967,
	0x27b70a85, 0x2e1b2138, 0x4d2c6dfc, 0x53380d13, 0x650a7354, 0x766a0abb, 0x81c2c92e, 0x92722c85,
	0xa2bfe8a1, 0xa81a664b, 0xc24b8b70, 0xc76c51a3, 0xd192e819, 0xd6990624, 0xf40e3585, 0x106aa070,
	0x19a4c116, 0x1e376c08, 0x2748774c, 0x34b0bcb5, 0x391c0cb3, 0x4ed8aa4a, 0x5b9cca4f, 0x682e6ff3,
	0x748f82ee, 0x78a5636f, 0x84c87814, 0x8cc70208, 0x90befffa, 0xa4506ceb, 0xbef9a3f7, 0xc67178f2,
}

// mix is the words into which the block was mixed.
func mix(was words, block [blockSize]byte) words {
	spread := spreadOf(block)
	now := was
	round := func(i int) {
		a, b, c, d, e, f, g, h := now[0], now[1], now[2], now[3], now[4], now[5], now[6], now[7]
		t := h + (turned(e, 6) ^ turned(e, 11) ^ turned(e, 25)) + ((e & f) ^ (^e & g)) + constants[i] + spread[i]
		u := (turned(a, 2) ^ turned(a, 13) ^ turned(a, 22)) + ((a & b) ^ (a & c) ^ (b & c))
		now = words{t + u, a, b, c, d + t, e, f, g}
	}
	for i := range rounds {
		round(i)
	}
	for i := range len(now) {
		now[i] += was[i]
	}
	return now
}

// spreadOf is a word for each round: those of the block, and what comes of them.
func spreadOf(block [blockSize]byte) [rounds]uint32 {
	const own = blockSize / 4
	var w [rounds]uint32
	for i := range own {
		w[i] = uint32(block[4*i])<<24 | uint32(block[4*i+1])<<16 | uint32(block[4*i+2])<<8 | uint32(block[4*i+3])
	}
	for i := own; i < rounds; i++ {
		x, y := w[i-15], w[i-2]
		s0 := turned(x, 7) ^ turned(x, 18) ^ x>>3
		s1 := turned(y, 17) ^ turned(y, 19) ^ y>>10
		w[i] = w[i-16] + s0 + w[i-7] + s1
	}
	return w
}

// turned is x with its bits moved n places to the right, those that fall out coming in on the left.
func turned(x uint32, n uint) uint32 {
	return x>>n | x<<(32-n)
}
