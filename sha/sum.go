package sha

import "math/bits"

// block: the message is summed so many bytes at a time.
const block = 64

// mark is the byte behind the bytes of the message.
const mark = 128

// roots: the first 32 bits behind the point of the cube roots of the first 64 primes.
var roots = [64]uint32{
	0x428a2f98, 0x71374491, 0xb5c0fbcf, 0xe9b5dba5, 0x3956c25b, 0x59f111f1, 0x923f82a4, 0xab1c5ed5,
	0xd807aa98, 0x12835b01, 0x243185be, 0x550c7dc3, 0x72be5d74, 0x80deb1fe, 0x9bdc06a7, 0xc19bf174,
	0xe49b69c1, 0xefbe4786, 0x0fc19dc6, 0x240ca1cc, 0x2de92c6f, 0x4a7484aa, 0x5cb0a9dc, 0x76f988da,
	0x983e5152, 0xa831c66d, 0xb00327c8, 0xbf597fc7, 0xc6e00bf3, 0xd5a79147, 0x06ca6351, 0x14292967,
	0x27b70a85, 0x2e1b2138, 0x4d2c6dfc, 0x53380d13, 0x650a7354, 0x766a0abb, 0x81c2c92e, 0x92722c85,
	0xa2bfe8a1, 0xa81a664b, 0xc24b8b70, 0xc76c51a3, 0xd192e819, 0xd6990624, 0xf40e3585, 0x106aa070,
	0x19a4c116, 0x1e376c08, 0x2748774c, 0x34b0bcb5, 0x391c0cb3, 0x4ed8aa4a, 0x5b9cca4f, 0x682e6ff3,
	0x748f82ee, 0x78a5636f, 0x84c87814, 0x8cc70208, 0x90befffa, 0xa4506ceb, 0xbef9a3f7, 0xc67178f2,
}

// state is h0 .. h7.
type state [8]uint32

// begin: the first 32 bits behind the point of the square roots of the first eight primes.
func begin() state {
	return state{
		0x6a09e667, 0xbb67ae85, 0x3c6ef372, 0xa54ff53a,
		0x510e527f, 0x9b05688c, 0x1f83d9ab, 0x5be0cd19,
	}
}

// number is four bytes, the highest first.
func number(b []byte) uint32 {
	return uint32(b[0])<<24 | uint32(b[1])<<16 | uint32(b[2])<<8 | uint32(b[3])
}

// right is x turned to the right by n bits.
func right(x uint32, n int) uint32 {
	return bits.RotateLeft32(x, -n)
}

// spread makes 64 numbers of a block of 64 bytes.
func spread(b []byte) [64]uint32 {
	var w [64]uint32
	for t := range 16 {
		w[t] = number(b[4*t : 4*t+4])
	}
	for t := 16; t < 64; t++ {
		x, y := w[t-15], w[t-2]
		s0 := right(x, 7) ^ right(x, 18) ^ x>>3
		s1 := right(y, 17) ^ right(y, 19) ^ y>>10
		w[t] = w[t-16] + s0 + w[t-7] + s1
	}
	return w
}

// add takes blocks of 64 bytes, as many as b has whole ones, into the state.
func (h *state) add(b []byte) {
	for ; len(b) >= block; b = b[block:] {
		h.mix(spread(b[:block]))
	}
}

// mix takes the numbers of one block into the state.
func (h *state) mix(w [64]uint32) {
	a, b, c, d, e, f, g, i := h[0], h[1], h[2], h[3], h[4], h[5], h[6], h[7]
	for t := range w {
		t1 := i + (right(e, 6) ^ right(e, 11) ^ right(e, 25)) + (e&f ^ ^e&g) + roots[t] + w[t]
		t2 := (right(a, 2) ^ right(a, 13) ^ right(a, 22)) + (a&b ^ a&c ^ b&c)
		i, g, f, e, d, c, b, a = g, f, e, d+t1, c, b, a, t1+t2
	}
	h[0] += a
	h[1] += b
	h[2] += c
	h[3] += d
	h[4] += e
	h[5] += f
	h[6] += g
	h[7] += i
}

// rest is what stands behind the last whole block of the message: its last bytes, the mark, noughts, and the count of its bits.
func rest(b []byte) []byte {
	last := b[len(b)/block*block:]
	n := block
	if len(last)+1+8 > block {
		n = 2 * block
	}
	r := make([]byte, n)
	copy(r, last)
	r[len(last)] = mark
	count := uint64(len(b)) * 8
	for i := range 8 {
		r[n-1-i] = byte(count >> (8 * i))
	}
	return r
}

// text is h0 .. h7, four bytes each, the highest first.
func (h *state) text() string {
	var r [size]byte
	for i, x := range h {
		r[4*i], r[4*i+1], r[4*i+2], r[4*i+3] = byte(x>>24), byte(x>>16), byte(x>>8), byte(x)
	}
	return string(r[:])
}
