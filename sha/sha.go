// Package sha is layer 1: the hash function SHA-256 (FIPS 180-4).
package sha

import "math/bits"

const (
	blockSize  = 64
	lengthSize = 8
)

// initial holds the first 32 bits of the fractional parts of the square roots of the first eight primes.
var initial = [8]uint32{
	0x6a09e667, 0xbb67ae85, 0x3c6ef372, 0xa54ff53a, 0x510e527f, 0x9b05688c, 0x1f83d9ab, 0x5be0cd19,
}

// k holds the first 32 bits of the fractional parts of the cube roots of the first 64 primes.
var k = [64]uint32{
	0x428a2f98, 0x71374491, 0xb5c0fbcf, 0xe9b5dba5, 0x3956c25b, 0x59f111f1, 0x923f82a4, 0xab1c5ed5,
	0xd807aa98, 0x12835b01, 0x243185be, 0x550c7dc3, 0x72be5d74, 0x80deb1fe, 0x9bdc06a7, 0xc19bf174,
	0xe49b69c1, 0xefbe4786, 0x0fc19dc6, 0x240ca1cc, 0x2de92c6f, 0x4a7484aa, 0x5cb0a9dc, 0x76f988da,
	0x983e5152, 0xa831c66d, 0xb00327c8, 0xbf597fc7, 0xc6e00bf3, 0xd5a79147, 0x06ca6351, 0x14292967,
	0x27b70a85, 0x2e1b2138, 0x4d2c6dfc, 0x53380d13, 0x650a7354, 0x766a0abb, 0x81c2c92e, 0x92722c85,
	0xa2bfe8a1, 0xa81a664b, 0xc24b8b70, 0xc76c51a3, 0xd192e819, 0xd6990624, 0xf40e3585, 0x106aa070,
	0x19a4c116, 0x1e376c08, 0x2748774c, 0x34b0bcb5, 0x391c0cb3, 0x4ed8aa4a, 0x5b9cca4f, 0x682e6ff3,
	0x748f82ee, 0x78a5636f, 0x84c87814, 0x8cc70208, 0x90befffa, 0xa4506ceb, 0xbef9a3f7, 0xc67178f2,
}

// Hash is a running hash.
type Hash struct {
	state  [8]uint32
	block  [blockSize]byte // only the first filled bytes count: they are not in the state yet
	filled int             // less than blockSize between calls
	size   uint64
}

// New returns a running hash of no bytes.
func New() *Hash { return &Hash{state: initial} }

// Write appends b to the bytes of the hash.
func (h *Hash) Write(b []byte) {
	h.size += uint64(len(b))
	for len(b) > 0 {
		n := copy(h.block[h.filled:], b)
		b = b[n:]
		h.filled += n
		if h.filled == blockSize {
			h.state = compress(h.state, h.block)
			h.filled = 0
		}
	}
}

// Sum returns the hash of the bytes so far; more may be written afterwards.
func (h *Hash) Sum() []byte {
	// The padding goes into a copy, so that the running hash can go on.
	last := *h
	last.Write(padding(h.size))
	return stateBytes(last.state)
}

// Sum returns the hash of the concatenation of the parts.
func Sum(parts ...[]byte) []byte {
	h := New()
	for _, part := range parts {
		h.Write(part)
	}
	return h.Sum()
}

// padding returns what follows a message of size bytes, up to the end of its last block.
func padding(size uint64) []byte {
	// A block size divides 2^64, so the difference may wrap round.
	zeros := (blockSize - lengthSize - 1 - size) % blockSize
	p := make([]byte, 1+zeros, 1+zeros+lengthSize)
	p[0] = 0x80
	length := size * 8
	for shift := 56; shift >= 0; shift -= 8 {
		p = append(p, byte(length>>shift))
	}
	return p
}

func stateBytes(state [8]uint32) []byte {
	out := make([]byte, 0, 4*len(state))
	for _, x := range state {
		out = append(out, byte(x>>24), byte(x>>16), byte(x>>8), byte(x))
	}
	return out
}

// compress returns the state after one more block.
func compress(state [8]uint32, block [blockSize]byte) [8]uint32 {
	w := schedule(block)
	a, b, c, d := state[0], state[1], state[2], state[3]
	e, f, g, h := state[4], state[5], state[6], state[7]
	t := 0
round:
	t1 := h + mix(e, 6, 11, 25) + ((e & f) ^ (^e & g)) + k[t] + w[t]
	t2 := mix(a, 2, 13, 22) + ((a & b) ^ (a & c) ^ (b & c))
	h, g, f, e, d, c, b, a = g, f, e, d+t1, c, b, a, t1+t2
	t++
	if t < len(w) {
		goto round
	}
	return [8]uint32{
		state[0] + a, state[1] + b, state[2] + c, state[3] + d,
		state[4] + e, state[5] + f, state[6] + g, state[7] + h,
	}
}

// schedule returns the numbers of a block, extended from 16 to one for each round.
func schedule(block [blockSize]byte) [64]uint32 {
	var w [64]uint32
	for t := range 16 {
		w[t] = uint32(block[4*t])<<24 | uint32(block[4*t+1])<<16 | uint32(block[4*t+2])<<8 | uint32(block[4*t+3])
	}
	for t := 16; t < len(w); t++ {
		w[t] = mixShift(w[t-2], 17, 19, 10) + w[t-7] + mixShift(w[t-15], 7, 18, 3) + w[t-16]
	}
	return w
}

// mix is the xor of x rotated right by three counts.
func mix(x uint32, i, j, l int) uint32 {
	return bits.RotateLeft32(x, -i) ^ bits.RotateLeft32(x, -j) ^ bits.RotateLeft32(x, -l)
}

// mixShift is the xor of x rotated right by i and by j, and shifted right by l.
func mixShift(x uint32, i, j int, l uint) uint32 {
	return bits.RotateLeft32(x, -i) ^ bits.RotateLeft32(x, -j) ^ x>>l
}
