package pcurve

import (
	"halberd/api"
	"halberd/prime"
)

// A text's bytes: its head, then the two coordinates.
const (
	head  = '\x04'
	width = 32
	size  = 1 + 2*width
)

// curve is the points with y^2 = x^3 - 3x + b; what it reckons with is its field's.
type curve struct {
	prime.Field
	b prime.Number
}

// point is a point by three coordinates: x by z and y by z are its own two. With a z of 0 it is the point at infinity.
type point struct {
	x, y, z prime.Number
}

// p256 gives the curve.
func p256() curve {
	f, _ := prime.Of(api.ModP)
	return curve{
		Field: f,
		b:     prime.Number{0x27d2604b, 0x3bce3c3e, 0xcc53b0f6, 0x651d06b0, 0x769886bc, 0xb3ebbd55, 0xaa3a93e7, 0x5ac635d8},
	}
}

// infinity gives the point that changes no sum.
func infinity() point {
	return point{y: prime.Number{1}}
}

// read reads a point, and tells whether s is one.
func (c curve) read(s string) (point, bool) {
	if len(s) != size || s[0] != head {
		return point{}, false
	}
	x, ok := c.Read(s[1 : 1+width])
	if !ok {
		return point{}, false
	}
	y, ok := c.Read(s[1+width:])
	if !ok || c.Times(y, y) != c.square(x) {
		return point{}, false
	}
	return point{x: x, y: y, z: prime.Number{1}}, true
}

// square gives what the square of y is at x.
func (c curve) square(x prime.Number) prime.Number {
	cube := c.Times(c.Times(x, x), x)
	return c.Plus(c.Minus(cube, c.thrice(x)), c.b)
}

// write writes a point, and tells whether it has a text: the point at infinity has none.
func (c curve) write(p point) (string, bool) {
	inverse, ok := c.Inverse(p.z)
	if !ok {
		return "", false
	}
	return string(head) + c.Times(p.x, inverse).Text() + c.Times(p.y, inverse).Text(), true
}

// thrice gives three times a.
func (c curve) thrice(a prime.Number) prime.Number {
	return c.Plus(c.Plus(a, a), a)
}

// crossed gives a times e + b times d, if straight is a times d + b times e.
func (c curve) crossed(a, b, d, e, straight prime.Number) prime.Number {
	return c.Minus(c.Times(c.Plus(a, b), c.Plus(d, e)), straight)
}

// sum gives p + q. These rows (Renes, Costello and Batina's, for a factor of -3) hold for any two points of the curve: for
// one and the same, for one and its opposite, and for the point at infinity.
func (c curve) sum(p point, q point) point {
	xx, yy, zz := c.Times(p.x, q.x), c.Times(p.y, q.y), c.Times(p.z, q.z)
	xy := c.crossed(p.x, p.y, q.x, q.y, c.Plus(xx, yy))
	yz := c.crossed(p.y, p.z, q.y, q.z, c.Plus(yy, zz))
	xz := c.crossed(p.x, p.z, q.x, q.z, c.Plus(xx, zz))
	half := c.thrice(c.Minus(xz, c.Times(c.b, zz)))
	high, low := c.Plus(yy, half), c.Minus(yy, half)
	left := c.thrice(c.Minus(xx, zz))
	right := c.thrice(c.Minus(c.Times(c.b, xz), c.Plus(xx, c.thrice(zz))))
	return point{
		x: c.Minus(c.Times(xy, high), c.Times(yz, right)),
		y: c.Plus(c.Times(high, low), c.Times(left, right)),
		z: c.Plus(c.Times(yz, low), c.Times(xy, left)),
	}
}
