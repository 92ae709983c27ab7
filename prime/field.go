// Package prime reckons with numbers modulo the primes of package api: what the layers share that need such numbers, and
// don't want them as texts between two steps.
package prime

import (
	"halberd/api"
)

// Field is the numbers below a prime. The prime is above 2^254; over is what 2^256 is modulo it, below 2^224.
type Field struct {
	prime Number
	over  Number
}

// Of gives the field of one of api's moduli, and whether there is such a modulus.
func Of(which int) (Field, bool) {
	switch which {
	case api.ModP:
		return Field{
			prime: Number{0xffffffff, 0xffffffff, 0xffffffff, 0, 0, 0, 1, 0xffffffff},
			over:  Number{1, 0, 0, 0xffffffff, 0xffffffff, 0xffffffff, 0xfffffffe, 0},
		}, true
	case api.ModN:
		return Field{
			prime: Number{0xfc632551, 0xf3b9cac2, 0xa7179e84, 0xbce6faad, 0xffffffff, 0xffffffff, 0, 0xffffffff},
			over:  Number{0x039cdaaf, 0x0c46353d, 0x58e8617b, 0x43190552, 0, 0, 0xffffffff, 0},
		}, true
	case api.ModX:
		return Field{
			prime: Number{0xffffffed, 0xffffffff, 0xffffffff, 0xffffffff, 0xffffffff, 0xffffffff, 0xffffffff, 0x7fffffff},
			over:  Number{38},
		}, true
	}
	return Field{}, false
}

// Read reads a number, and tells whether s is one: 32 bytes, the highest first, below the prime.
func (f Field) Read(s string) (Number, bool) {
	if len(s) != size {
		return Number{}, false
	}
	n := number(s)
	if _, below := n.minus(f.prime); !below {
		return Number{}, false
	}
	return n, true
}

// Rest reads what any 32 bytes tell, the highest first, modulo the prime, and tells whether s has as many.
func (f Field) Rest(s string) (Number, bool) {
	if len(s) != size {
		return Number{}, false
	}
	return f.rest(number(s)), true
}

// Plus gives a + b.
func (f Field) Plus(a Number, b Number) Number {
	sum, over := a.plus(b)
	less, below := sum.minus(f.prime)
	if below && !over {
		return sum
	}
	return less
}

// Minus gives a - b.
func (f Field) Minus(a Number, b Number) Number {
	rest, below := a.minus(b)
	if below {
		rest, _ = rest.plus(f.prime)
	}
	return rest
}

// Times gives a times b.
func (f Field) Times(a Number, b Number) Number {
	w := product(a, b)
	for at := limbs - 1; at >= 0; at-- {
		f.fold(&w, at)
	}
	return f.rest(w.low())
}

// fold takes the limb at + limbs, above which all are 0, out of w: as many times 2^256 as it tells, from the limb at on, are
// as many times over.
func (f Field) fold(w *wide, at int) {
	top := at + limbs
	w[top] = w.add(at, w[top], f.over)
	if w[top] != 0 {
		// A carry is 1, and leaves less than a limb times over in the limbs below it: once more over has room there.
		w[top] = 0
		w.add(at, 1, f.over)
	}
}

// rest gives n modulo the prime, for any n.
func (f Field) rest(n Number) Number {
	for {
		less, below := n.minus(f.prime)
		if below {
			return n
		}
		n = less
	}
}

// Inverse gives the number whose product with a is 1, and tells whether there is one.
func (f Field) Inverse(a Number) (Number, bool) {
	if a.Zero() {
		return Number{}, false
	}
	// Fermat: a to the prime less one is 1.
	power, _ := f.prime.minus(Number{2})
	return f.raised(a, power), true
}

// raised gives a to a power that is not 0.
func (f Field) raised(a Number, power Number) Number {
	x := Number{1}
	for i := range limbs * limbBits {
		x = f.Times(x, x)
		if power.bit(limbs*limbBits-1-i) != 0 {
			x = f.Times(x, a)
		}
	}
	return x
}
