package chacha

import (
	"math/bits"
)

// Places in the state: four words that are the same always, then these.
const (
	keyAt     = 4
	counterAt = 12
	nonceAt   = 13
)

// doubleRounds is the number of the cipher's twenty rounds, by two.
const doubleRounds = 10

// state is the cipher's sixteen words, four rows of four; each is read and written with its lowest byte first.
type state [16]uint32

// keyed gives the state ahead of the rounds.
func keyed(key string, counter uint32, nonce string) state {
	// The bytes of "expand 32-byte k".
	t := state{0x61707865, 0x3320646e, 0x79622d32, 0x6b206574}
	for i := keyAt; i < counterAt; i++ {
		t[i] = word(key, i-keyAt)
	}
	t[counterAt] = counter
	for i := nonceAt; i < len(t); i++ {
		t[i] = word(nonce, i-nonceAt)
	}
	return t
}

// masked adds the blocks to s, from the state's counter on.
func (t state) masked(s string) string {
	b := make([]byte, len(s))
	var mask [blockSize]byte
	for i := range b {
		if i%blockSize == 0 {
			mask = t.block()
			// The word's own wrap-round is the counter's.
			t[counterAt]++
		}
		b[i] = s[i] ^ mask[i%blockSize]
	}
	return string(b)
}

// block gives the state's block.
func (t state) block() [blockSize]byte {
	var b [blockSize]byte
	for i, w := range t.mixed() {
		// Without the start beside it, the rounds could be gone back.
		w += t[i]
		b[4*i], b[4*i+1], b[4*i+2], b[4*i+3] = byte(w), byte(w>>8), byte(w>>16), byte(w>>24)
	}
	return b
}

// mixed gives the state behind the rounds.
func (t state) mixed() state {
	for range doubleRounds {
		// The columns.
		t[0], t[4], t[8], t[12] = quarter(t[0], t[4], t[8], t[12])
		t[1], t[5], t[9], t[13] = quarter(t[1], t[5], t[9], t[13])
		t[2], t[6], t[10], t[14] = quarter(t[2], t[6], t[10], t[14])
		t[3], t[7], t[11], t[15] = quarter(t[3], t[7], t[11], t[15])
		// The diagonals.
		t[0], t[5], t[10], t[15] = quarter(t[0], t[5], t[10], t[15])
		t[1], t[6], t[11], t[12] = quarter(t[1], t[6], t[11], t[12])
		t[2], t[7], t[8], t[13] = quarter(t[2], t[7], t[8], t[13])
		t[3], t[4], t[9], t[14] = quarter(t[3], t[4], t[9], t[14])
	}
	return t
}

// quarter is RFC 8439's quarter of a round.
func quarter(a, b, c, d uint32) (uint32, uint32, uint32, uint32) {
	a += b
	d = bits.RotateLeft32(d^a, 16)
	c += d
	b = bits.RotateLeft32(b^c, 12)
	a += b
	d = bits.RotateLeft32(d^a, 8)
	c += d
	b = bits.RotateLeft32(b^c, 7)
	return a, b, c, d
}

// word reads the i-th four bytes of s.
func word(s string, i int) uint32 {
	return uint32(s[4*i]) | uint32(s[4*i+1])<<8 | uint32(s[4*i+2])<<16 | uint32(s[4*i+3])<<24
}
