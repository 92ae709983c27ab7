package xcurve

import (
	"slices"
)

// size is the bytes of a scalar and of a coordinate, the lowest first.
const size = 32

// scalar is what a point is taken times, the lowest byte first.
type scalar [size]byte

// clamped gives the scalar of k's 32 bytes: a multiple of 8, so that no point of a small order adds to what is shared, whose
// highest bit is always the same one.
func clamped(k string) scalar {
	var n scalar
	copy(n[:], k)
	n[0] &= 0xf8
	n[size-1] = n[size-1]&0x7f | 0x40
	return n
}

// bit gives the i-th bit, the lowest first.
func (n scalar) bit(i int) uint32 {
	return uint32(n[i/8] >> (i % 8) & 1)
}

// reversed gives the bytes of s, the last first.
func reversed(s string) string {
	b := []byte(s)
	slices.Reverse(b)
	return string(b)
}
