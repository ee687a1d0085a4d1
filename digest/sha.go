package digest

import (
	"math/bits"

	"podium/api"
)

const (
	blockSize  = 64
	lengthSize = 8 // bytes of the number of bits at the end of the padded bytes
	wordSize   = 4
	rounds     = 64
)

// constants are the numbers K(0) to K(63).
var constants = [rounds]uint32{
	0x428a2f98, 0x71374491, 0xb5c0fbcf, 0xe9b5dba5, 0x3956c25b, 0x59f111f1, 0x923f82a4, 0xab1c5ed5,
	0xd807aa98, 0x12835b01, 0x243185be, 0x550c7dc3, 0x72be5d74, 0x80deb1fe, 0x9bdc06a7, 0xc19bf174,
	0xe49b69c1, 0xefbe4786, 0x0fc19dc6, 0x240ca1cc, 0x2de92c6f, 0x4a7484aa, 0x5cb0a9dc, 0x76f988da,
	0x983e5152, 0xa831c66d, 0xb00327c8, 0xbf597fc7, 0xc6e00bf3, 0xd5a79147, 0x06ca6351, 0x14292967,
	0x27b70a85, 0x2e1b2138, 0x4d2c6dfc, 0x53380d13, 0x650a7354, 0x766a0abb, 0x81c2c92e, 0x92722c85,
	0xa2bfe8a1, 0xa81a664b, 0xc24b8b70, 0xc76c51a3, 0xd192e819, 0xd6990624, 0xf40e3585, 0x106aa070,
	0x19a4c116, 0x1e376c08, 0x2748774c, 0x34b0bcb5, 0x391c0cb3, 0x4ed8aa4a, 0x5b9cca4f, 0x682e6ff3,
	0x748f82ee, 0x78a5636f, 0x84c87814, 0x8cc70208, 0x90befffa, 0xa4506ceb, 0xbef9a3f7, 0xc67178f2,
}

// state is h(0) to h(7).
type state struct{ h [8]uint32 }

func newState() *state {
	return &state{h: [8]uint32{
		0x6a09e667, 0xbb67ae85, 0x3c6ef372, 0xa54ff53a,
		0x510e527f, 0x9b05688c, 0x1f83d9ab, 0x5be0cd19,
	}}
}

// eachBlock hands over the blocks of b, whose length is a multiple of theirs.
func eachBlock(b []byte, absorb func(block []byte)) {
	for i := range len(b) / blockSize {
		absorb(b[i*blockSize : (i+1)*blockSize])
	}
}

// padded returns the last blocks of n bytes that end with rest. They are new memory, so that nothing after the bytes of the caller is written.
func padded(rest []byte, n int) []byte {
	size := blockSize
	if len(rest)+1+lengthSize > blockSize {
		size = 2 * blockSize
	}
	p := make([]byte, size)
	p[copy(p, rest)] = 0x80
	count := uint64(n) * 8
	for i := range lengthSize {
		p[size-1-i] = byte(count >> (8 * i))
	}
	return p
}

// absorb adds a block to the state.
func (s *state) absorb(block []byte) {
	w := schedule(block)
	a, b, c, d, e, f, g, h := s.h[0], s.h[1], s.h[2], s.h[3], s.h[4], s.h[5], s.h[6], s.h[7]
	for t := range rounds {
		p := h + (ror(e, 6) ^ ror(e, 11) ^ ror(e, 25)) + (e&f ^ ^e&g) + constants[t] + w[t]
		q := (ror(a, 2) ^ ror(a, 13) ^ ror(a, 22)) + (a&b ^ a&c ^ b&c)
		a, b, c, d, e, f, g, h = p+q, a, b, c, d+p, e, f, g
	}
	for i, x := range [8]uint32{a, b, c, d, e, f, g, h} {
		s.h[i] += x
	}
}

// schedule returns w(0) to w(63) of a block.
func schedule(block []byte) (w [rounds]uint32) {
	const given = blockSize / wordSize
	for t := range given {
		w[t] = word(block[t*wordSize:])
	}
	for t := given; t < rounds; t++ {
		x, y := w[t-15], w[t-2]
		w[t] = w[t-16] + (ror(x, 7) ^ ror(x, 18) ^ x>>3) + w[t-7] + (ror(y, 17) ^ ror(y, 19) ^ y>>10)
	}
	return w
}

// word reads the first bytes of b as a word.
func word(b []byte) (w uint32) {
	for i := range wordSize {
		w = w<<8 | uint32(b[i])
	}
	return w
}

// ror rotates v by n bits to the right.
func ror(v uint32, n int) uint32 {
	return bits.RotateLeft32(v, -n)
}

func (s *state) digest() (d api.Digest) {
	for i := range d {
		d[i] = byte(s.h[i/wordSize] >> (8 * (wordSize - 1 - i%wordSize)))
	}
	return d
}
