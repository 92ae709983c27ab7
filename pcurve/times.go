package pcurve

import (
	"halberd/prime"
)

// A scalar is gone through by digits of four bits.
const (
	digitBits = 4
	digits    = 1 << digitBits
)

// multiples is a point's multiples, each at the digit that tells it.
type multiples [digits]point

// times gives k p; k is a scalar's bytes, the highest first.
func (c curve) times(k string, p point) point {
	row := c.multiples(p)
	product := infinity()
	for i := range len(k) {
		product = c.shifted(product, &row, k[i]>>digitBits)
		product = c.shifted(product, &row, k[i]&(digits-1))
	}
	return product
}

// multiples gives a point's multiples.
func (c curve) multiples(p point) multiples {
	row := multiples{infinity()}
	for i := 1; i < digits; i++ {
		row[i] = c.sum(row[i-1], p)
	}
	return row
}

// shifted gives p by a digit's bits higher, and the digit's multiple added.
func (c curve) shifted(p point, row *multiples, digit byte) point {
	for range digitBits {
		p = c.sum(p, p)
	}
	return c.sum(p, row.of(digit))
}

// of gives the multiple of a digit, by masks over all of them: no place in memory hangs on a scalar's digits.
func (m *multiples) of(digit byte) point {
	var p point
	for i := range m {
		apart := uint32(i) ^ uint32(digit)
		mask := -((apart - 1) >> 31) // only what is 0 goes below 0
		p.x = masked(p.x, m[i].x, mask)
		p.y = masked(p.y, m[i].y, mask)
		p.z = masked(p.z, m[i].z, mask)
	}
	return p
}

// masked gives a with the mask's bits of b besides.
func masked(a prime.Number, b prime.Number, mask uint32) prime.Number {
	for i := range a {
		a[i] |= b[i] & mask
	}
	return a
}
