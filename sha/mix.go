package sha

import (
	"math/bits"
)

// Rounds of a block.
const (
	rounds256 = 64
	rounds384 = 80
)

// roundWords are the fractions of the cube roots of the first 80 primes. SHA-256 takes the upper halves of the first 64.
var roundWords = [rounds384]uint64{
	0x428a2f98d728ae22, 0x7137449123ef65cd, 0xb5c0fbcfec4d3b2f, 0xe9b5dba58189dbbc,
	0x3956c25bf348b538, 0x59f111f1b605d019, 0x923f82a4af194f9b, 0xab1c5ed5da6d8118,
	0xd807aa98a3030242, 0x12835b0145706fbe, 0x243185be4ee4b28c, 0x550c7dc3d5ffb4e2,
	0x72be5d74f27b896f, 0x80deb1fe3b1696b1, 0x9bdc06a725c71235, 0xc19bf174cf692694,
	0xe49b69c19ef14ad2, 0xefbe4786384f25e3, 0x0fc19dc68b8cd5b5, 0x240ca1cc77ac9c65,
	0x2de92c6f592b0275, 0x4a7484aa6ea6e483, 0x5cb0a9dcbd41fbd4, 0x76f988da831153b5,
	0x983e5152ee66dfab, 0xa831c66d2db43210, 0xb00327c898fb213f, 0xbf597fc7beef0ee4,
	0xc6e00bf33da88fc2, 0xd5a79147930aa725, 0x06ca6351e003826f, 0x142929670a0e6e70,
	0x27b70a8546d22ffc, 0x2e1b21385c26c926, 0x4d2c6dfc5ac42aed, 0x53380d139d95b3df,
	0x650a73548baf63de, 0x766a0abb3c77b2a8, 0x81c2c92e47edaee6, 0x92722c851482353b,
	0xa2bfe8a14cf10364, 0xa81a664bbc423001, 0xc24b8b70d0f89791, 0xc76c51a30654be30,
	0xd192e819d6ef5218, 0xd69906245565a910, 0xf40e35855771202a, 0x106aa07032bbd1b8,
	0x19a4c116b8d2d0c8, 0x1e376c085141ab53, 0x2748774cdf8eeb99, 0x34b0bcb5e19b48a8,
	0x391c0cb3c5c95a63, 0x4ed8aa4ae3418acb, 0x5b9cca4f7763e373, 0x682e6ff3d6b2b8a3,
	0x748f82ee5defb2fc, 0x78a5636f43172f60, 0x84c87814a1f0ab72, 0x8cc702081a6439ec,
	0x90befffa23631e28, 0xa4506cebde82bde9, 0xbef9a3f7b2c67915, 0xc67178f2e372532b,
	0xca273eceea26619c, 0xd186b8c721c0c207, 0xeada7dd6cde0eb1e, 0xf57d4f7fee6ed178,
	0x06f067aa72176fba, 0x0a637dc5a2c898a6, 0x113f9804bef90dae, 0x1b710b35131c471b,
	0x28db77f523047d84, 0x32caab7b40c72493, 0x3c9ebe0a15c9bebc, 0x431d67c49c100d4c,
	0x4cc5d4becb3e42b6, 0x597f299cfc657e2a, 0x5fcb6fab3ad6faec, 0x6c44198c4a475817,
}

// start256 is SHA-256's state ahead of the first block.
func start256() [8]uint64 {
	return [8]uint64{
		0x6a09e667, 0xbb67ae85, 0x3c6ef372, 0xa54ff53a,
		0x510e527f, 0x9b05688c, 0x1f83d9ab, 0x5be0cd19,
	}
}

// start384 is SHA-384's state ahead of the first block.
func start384() [8]uint64 {
	return [8]uint64{
		0xcbbb9d5dc1059ed8, 0x629a292a367cd507, 0x9159015a3070dd17, 0x152fecd8f70e5939,
		0x67332667ffc00b31, 0x8eb44a8768581511, 0xdb0c2e0d64f98fa7, 0x47b5481dbefa4fa4,
	}
}

// schedule256 gives the words that the rounds of a block of SHA-256 take.
func schedule256(buffer [block384]byte) [rounds256]uint32 {
	var w [rounds256]uint32
	for i := range 16 {
		w[i] = uint32(getWord(buffer[4*i : 4*i+4]))
	}
	for i := 16; i < len(w); i++ {
		x, y := w[i-15], w[i-2]
		w[i] = w[i-16] + (turn32(x, 7) ^ turn32(x, 18) ^ x>>3) + w[i-7] + (turn32(y, 17) ^ turn32(y, 19) ^ y>>10)
	}
	return w
}

// schedule384 gives the words that the rounds of a block of SHA-384 take.
func schedule384(buffer [block384]byte) [rounds384]uint64 {
	var w [rounds384]uint64
	for i := range 16 {
		w[i] = getWord(buffer[8*i : 8*i+8])
	}
	for i := 16; i < len(w); i++ {
		x, y := w[i-15], w[i-2]
		w[i] = w[i-16] + (turn64(x, 1) ^ turn64(x, 8) ^ x>>7) + w[i-7] + (turn64(y, 19) ^ turn64(y, 61) ^ y>>6)
	}
	return w
}

// mix256 gives SHA-256's state behind the block that the buffer begins with; the names of the words are the standard's.
func mix256(state [8]uint64, buffer [block384]byte) [8]uint64 {
	a, b, c, d := uint32(state[0]), uint32(state[1]), uint32(state[2]), uint32(state[3])
	e, f, g, h := uint32(state[4]), uint32(state[5]), uint32(state[6]), uint32(state[7])
	for i, w := range schedule256(buffer) {
		t1 := h + (turn32(e, 6) ^ turn32(e, 11) ^ turn32(e, 25)) + (e&f ^ ^e&g) + uint32(roundWords[i]>>32) + w
		t2 := (turn32(a, 2) ^ turn32(a, 13) ^ turn32(a, 22)) + (a&b ^ a&c ^ b&c)
		h, g, f, e, d, c, b, a = g, f, e, d+t1, c, b, a, t1+t2
	}
	for i, x := range [8]uint32{a, b, c, d, e, f, g, h} {
		state[i] = uint64(uint32(state[i]) + x)
	}
	return state
}

// mix384 gives SHA-384's state behind the buffer's block; the names of the words are the standard's.
func mix384(state [8]uint64, buffer [block384]byte) [8]uint64 {
	a, b, c, d := state[0], state[1], state[2], state[3]
	e, f, g, h := state[4], state[5], state[6], state[7]
	for i, w := range schedule384(buffer) {
		t1 := h + (turn64(e, 14) ^ turn64(e, 18) ^ turn64(e, 41)) + (e&f ^ ^e&g) + roundWords[i] + w
		t2 := (turn64(a, 28) ^ turn64(a, 34) ^ turn64(a, 39)) + (a&b ^ a&c ^ b&c)
		h, g, f, e, d, c, b, a = g, f, e, d+t1, c, b, a, t1+t2
	}
	for i, x := range [8]uint64{a, b, c, d, e, f, g, h} {
		state[i] += x
	}
	return state
}

// turn32 turns x to the right by n bits.
func turn32(x uint32, n int) uint32 {
	return bits.RotateLeft32(x, -n)
}

// turn64 turns x to the right by n bits.
func turn64(x uint64, n int) uint64 {
	return bits.RotateLeft64(x, -n)
}
