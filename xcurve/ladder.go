package xcurve

import (
	"halberd/api"
	"halberd/prime"
)

// topBit is the highest bit of a clamped scalar.
const topBit = 254

// quarter is a quarter of what the curve's 486662 is above 2: RFC 7748's a24.
const quarter = 121665

// point is a point's coordinate, as x by z; with a z of 0 it is the point at infinity.
type point struct {
	x, z prime.Number
}

// ladder takes the point with the coordinate u times scalars.
type ladder struct {
	f prime.Field
	u prime.Number
}

// ladderAt gives the ladder of the coordinate in u, and tells whether u has its bytes. The highest bit doesn't count, and
// what is left may be the prime or more.
func ladderAt(u string) (ladder, bool) {
	f, ok := prime.Of(api.ModX)
	if !ok || len(u) != size {
		return ladder{}, false
	}
	b := []byte(u)
	b[size-1] &= 0x7f
	n, ok := f.Rest(reversed(string(b)))
	return ladder{f: f, u: n}, ok
}

// times gives the coordinate of n times the point; that of infinity is 0.
func (l ladder) times(n scalar) prime.Number {
	one := prime.Number{1}
	low, high := point{x: one}, point{x: l.u, z: one}
	swapped := uint32(0)
	for i := topBit; i >= 0; i-- {
		bit := n.bit(i)
		swap(swapped^bit, &low, &high)
		low, high = l.step(low, high)
		swapped = bit
	}
	swap(swapped, &low, &high)
	return l.affine(low)
}

// step doubles the lower of two points that are the ladder's point apart, and gives their sum as the higher one.
func (l ladder) step(low point, high point) (point, point) {
	f := l.f
	sum, rest := f.Plus(low.x, low.z), f.Minus(low.x, low.z)
	sums, rests := f.Times(sum, sum), f.Times(rest, rest)
	apart := f.Minus(sums, rests)
	across := f.Times(f.Minus(high.x, high.z), sum)
	back := f.Times(f.Plus(high.x, high.z), rest)
	x, z := f.Plus(across, back), f.Minus(across, back)
	double := point{
		x: f.Times(sums, rests),
		z: f.Times(apart, f.Plus(sums, f.Times(prime.Number{quarter}, apart))),
	}
	return double, point{x: f.Times(x, x), z: f.Times(l.u, f.Times(z, z))}
}

// affine gives x by z, and 0 where z is 0.
func (l ladder) affine(p point) prime.Number {
	inverse, ok := l.f.Inverse(p.z)
	if !ok {
		return prime.Number{}
	}
	return l.f.Times(p.x, inverse)
}

// swap exchanges two points if the bit is 1, by a mask: no branch hangs on a scalar's bits.
func swap(bit uint32, p *point, q *point) {
	mask := -bit
	exchange(mask, &p.x, &q.x)
	exchange(mask, &p.z, &q.z)
}

// exchange exchanges the bits of two numbers that the mask has in each limb.
func exchange(mask uint32, a *prime.Number, b *prime.Number) {
	for i := range a {
		apart := (a[i] ^ b[i]) & mask
		a[i] ^= apart
		b[i] ^= apart
	}
}
