package aes

import (
	"math/bits"
)

// Sizes in words of four bytes.
const (
	columns = 4
	maxKeys = columns * (14 + 1) // a long key's 14 rounds, and the start
)

// state is a block's columns; a column's first byte is its word's highest.
type state [columns]uint32

// cipher is what a key makes of FIPS 197's rounds.
type cipher struct {
	table  [256]byte       // held here, so that it is written out once a key, not once a byte
	keys   [maxKeys]uint32 // those of the start, then those of each round
	rounds int
}

// keyed gives the cipher of a key, whose size is one of the two.
func keyed(key string) *cipher {
	n := len(key) / 4
	c := &cipher{table: substitutes(), rounds: n + 6}
	for i := range n {
		c.keys[i] = word(key, i)
	}
	constant := uint32(1) << 24
	for i := n; i < columns*(c.rounds+1); i++ {
		w := c.keys[i-1]
		switch {
		case i%n == 0:
			w = bits.RotateLeft32(w, 8)
			w = c.column(w, w, w, w) ^ constant
			constant = doubled(constant)
		case n == longKey/4 && i%n == 4:
			w = c.column(w, w, w, w)
		}
		c.keys[i] = c.keys[i-n] ^ w
	}
	return c
}

// encrypt gives the cipher of a block.
func (c *cipher) encrypt(s string) string {
	var t state
	for i := range t {
		t[i] = word(s, i)
	}
	t = c.withKeys(t, 0)
	for round := 1; round < c.rounds; round++ {
		t = c.withKeys(mixed(c.shifted(t)), round)
	}
	// The last round is the one that doesn't mix.
	return text(c.withKeys(c.shifted(t), c.rounds))
}

// withKeys adds a round's keys.
func (c *cipher) withKeys(t state, round int) state {
	for i := range t {
		t[i] ^= c.keys[columns*round+i]
	}
	return t
}

// shifted substitutes each byte and turns each row by its number.
func (c *cipher) shifted(t state) state {
	return state{
		c.column(t[0], t[1], t[2], t[3]),
		c.column(t[1], t[2], t[3], t[0]),
		c.column(t[2], t[3], t[0], t[1]),
		c.column(t[3], t[0], t[1], t[2]),
	}
}

// column gives the substitutes of w's first byte, x's second, y's third and z's fourth.
func (c *cipher) column(w, x, y, z uint32) uint32 {
	return uint32(c.table[byte(w>>24)])<<24 |
		uint32(c.table[byte(x>>16)])<<16 |
		uint32(c.table[byte(y>>8)])<<8 |
		uint32(c.table[byte(z)])
}

// mixed multiplies each column by FIPS 197's matrix.
func mixed(t state) state {
	for i, w := range t {
		// Each byte of the product is the byte twice, the next one three times, the other two once.
		next := bits.RotateLeft32(w, 8)
		t[i] = doubled(w^next) ^ next ^ bits.RotateLeft32(w, 16) ^ bits.RotateLeft32(w, 24)
	}
	return t
}

// doubled doubles each of w's bytes in the field of 256, all four at once.
func doubled(w uint32) uint32 {
	high := w >> 7 & 0x01010101
	return (w&0x7f7f7f7f)<<1 ^ high*0x1b
}

// word reads the i-th four bytes of s.
func word(s string, i int) uint32 {
	return uint32(s[4*i])<<24 | uint32(s[4*i+1])<<16 | uint32(s[4*i+2])<<8 | uint32(s[4*i+3])
}

// text writes the columns as bytes.
func text(t state) string {
	b := make([]byte, 0, blockSize)
	for _, w := range t {
		b = append(b, byte(w>>24), byte(w>>16), byte(w>>8), byte(w))
	}
	return string(b)
}
