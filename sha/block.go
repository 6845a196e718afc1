package sha

import "math/bits"

// blockSize is the number of bytes of a block.
const blockSize = 64

// rounds is the number of rounds of a block, each with a word of its schedule
// and a constant.
const rounds = 64

// constants are the first 32 bits of the fractional parts of the cube roots of
// the first 64 primes.
var constants = [rounds]uint32{
	0x428A2F98, 0x71374491, 0xB5C0FBCF, 0xE9B5DBA5, 0x3956C25B, 0x59F111F1, 0x923F82A4, 0xAB1C5ED5,
	0xD807AA98, 0x12835B01, 0x243185BE, 0x550C7DC3, 0x72BE5D74, 0x80DEB1FE, 0x9BDC06A7, 0xC19BF174,
	0xE49B69C1, 0xEFBE4786, 0x0FC19DC6, 0x240CA1CC, 0x2DE92C6F, 0x4A7484AA, 0x5CB0A9DC, 0x76F988DA,
	0x983E5152, 0xA831C66D, 0xB00327C8, 0xBF597FC7, 0xC6E00BF3, 0xD5A79147, 0x06CA6351, 0x14292967,
	0x27B70A85, 0x2E1B2138, 0x4D2C6DFC, 0x53380D13, 0x650A7354, 0x766A0ABB, 0x81C2C92E, 0x92722C85,
	0xA2BFE8A1, 0xA81A664B, 0xC24B8B70, 0xC76C51A3, 0xD192E819, 0xD6990624, 0xF40E3585, 0x106AA070,
	0x19A4C116, 0x1E376C08, 0x2748774C, 0x34B0BCB5, 0x391C0CB3, 0x4ED8AA4A, 0x5B9CCA4F, 0x682E6FF3,
	0x748F82EE, 0x78A5636F, 0x84C87814, 0x8CC70208, 0x90BEFFFA, 0xA4506CEB, 0xBEF9A3F7, 0xC67178F2,
}

// initialValue returns the words before the first block: the first 32 bits of
// the fractional parts of the square roots of the first eight primes.
func initialValue() [8]uint32 {
	return [8]uint32{
		0x6A09E667, 0xBB67AE85, 0x3C6EF372, 0xA54FF53A, 0x510E527F, 0x9B05688C, 0x1F83D9AB, 0x5BE0CD19,
	}
}

// transform returns the words after a block, from those before it.
func transform(words [8]uint32, block [blockSize]byte) [8]uint32 {
	w := schedule(block)
	a, b, c, d := words[0], words[1], words[2], words[3]
	e, f, g, h := words[4], words[5], words[6], words[7]
	for t := range rounds {
		t1 := h + mixE(e) + choose(e, f, g) + constants[t] + w[t]
		t2 := mixA(a) + majority(a, b, c)
		h, g, f, e = g, f, e, d+t1
		d, c, b, a = c, b, a, t1+t2
	}
	return [8]uint32{
		words[0] + a, words[1] + b, words[2] + c, words[3] + d,
		words[4] + e, words[5] + f, words[6] + g, words[7] + h,
	}
}

// schedule returns the words of a block, and those that follow from them.
func schedule(block [blockSize]byte) [rounds]uint32 {
	var w [rounds]uint32
	for i := range blockSize {
		w[i/4] = w[i/4]<<8 | uint32(block[i])
	}
	for t := blockSize / 4; t < rounds; t++ {
		w[t] = mixLate(w[t-2]) + w[t-7] + mixEarly(w[t-15]) + w[t-16]
	}
	return w
}

// mixEarly is the s0 of the standard.
func mixEarly(x uint32) uint32 {
	return rotate(x, 7) ^ rotate(x, 18) ^ x>>3
}

// mixLate is the s1 of the standard.
func mixLate(x uint32) uint32 {
	return rotate(x, 17) ^ rotate(x, 19) ^ x>>10
}

// mixA is the S0 of the standard.
func mixA(x uint32) uint32 {
	return rotate(x, 2) ^ rotate(x, 13) ^ rotate(x, 22)
}

// mixE is the S1 of the standard.
func mixE(x uint32) uint32 {
	return rotate(x, 6) ^ rotate(x, 11) ^ rotate(x, 25)
}

// choose takes each bit from f where e is 1, and from g otherwise.
func choose(e, f, g uint32) uint32 {
	return e&f | ^e&g
}

// majority takes each bit as most of the three have it.
func majority(a, b, c uint32) uint32 {
	return a&b | a&c | b&c
}

// rotate rotates x to the right.
func rotate(x uint32, by int) uint32 {
	return bits.RotateLeft32(x, -by)
}
