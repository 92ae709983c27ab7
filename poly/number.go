package poly

import (
	"math/bits"
)

// A limb's bits, and the greatest one.
const (
	limbBits = 26
	limbMask = 1<<limbBits - 1
)

// fold is what 2^130 is, modulo the prime 2^130 - 5.
const fold = 5

// number is one modulo 2^130 - 5, of five limbs, the lowest first. A limb may be greater than limbMask for a while.
type number [5]uint64

// limbs gives low + 2^64 high + 2^128 top; top is at most 3.
func limbs(low uint64, high uint64, top uint64) number {
	return number{
		low & limbMask,
		low >> 26 & limbMask,
		(low>>52 | high<<12) & limbMask,
		high >> 14 & limbMask,
		high>>40 | top<<24,
	}
}

// plus gives the sum, whose limbs nothing is carried from.
func (a number) plus(b number) number {
	for i := range a {
		a[i] += b[i]
	}
	return a
}

// times gives the product, with its limbs as carried leaves them. Those that come in are below 2^28, so that none of the
// sums goes past a word.
func (a number) times(b number) number {
	var p number
	for i, x := range a {
		for j, y := range b {
			if i+j < len(p) {
				p[i+j] += x * y
			} else {
				p[i+j-len(p)] += fold * x * y
			}
		}
	}
	return p.carried()
}

// carried gives the same number modulo the prime, with every limb but the second at most limbMask; the second is at most
// as much greater as what the first one hands on to it.
func (a number) carried() number {
	carry := uint64(0)
	for i := range a {
		a[i] += carry
		carry = a[i] >> limbBits
		a[i] &= limbMask
	}
	a[0] += fold * carry
	a[1] += a[0] >> limbBits
	a[0] &= limbMask
	return a
}

// reduced gives the number below the prime, of one that carried has left.
func (a number) reduced() number {
	// Either nothing goes out of the last limb here, and the second one is as small as the others behind it, or so little
	// is left that the second one is far from full.
	a = a.carried()
	// If it is the prime or more, five more are 2^130 or more, and what is above that is the rest.
	b := a
	b[0] += fold
	for i := range len(b) - 1 {
		b[i+1] += b[i] >> limbBits
		b[i] &= limbMask
	}
	if b[4] <= limbMask {
		return a
	}
	b[4] &= limbMask
	return b
}

// words gives the lower 128 bits of a reduced number, the lower word first.
func (a number) words() (uint64, uint64) {
	return a[0] | a[1]<<26 | a[2]<<52, a[2]>>12 | a[3]<<14 | a[4]<<40
}

// sum128 adds two numbers of two words each, the lower ones first, modulo 2^128.
func sum128(aLow, aHigh, bLow, bHigh uint64) (uint64, uint64) {
	low, carry := bits.Add64(aLow, bLow, 0)
	high, _ := bits.Add64(aHigh, bHigh, carry)
	return low, high
}
