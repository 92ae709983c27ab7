package gcm

// hasher is GHASH under way.
type hasher struct {
	multiples [16]element // the key's products with each polynomial of four coefficients
	sum       element
}

// keyedHash gives the hasher of a key, with nothing written.
func keyedHash(key element) *hasher {
	g := &hasher{}
	power := key
	// As in an element, the highest of the four bits is the coefficient of 1.
	for bit := 8; bit > 0; bit >>= 1 {
		for n := range g.multiples {
			if n&bit != 0 {
				g.multiples[n] = g.multiples[n].plus(power)
			}
		}
		power = power.raised(1)
	}
	return g
}

// write takes the blocks of s in, the last one filled up with zeros.
func (g *hasher) write(s string) {
	for len(s) >= blockSize {
		g.add(readElement(s[:blockSize]))
		s = s[blockSize:]
	}
	if len(s) > 0 {
		g.add(readElement(s + string(make([]byte, blockSize-len(s)))))
	}
}

// add takes one block in.
func (g *hasher) add(block element) {
	g.sum = g.product(g.sum.plus(block))
}

// product gives e times the key.
func (g *hasher) product(e element) element {
	var p element
	// The last bits are the highest powers': taken first, they are raised by all the steps behind.
	for _, half := range [2]uint64{e.low, e.high} {
		for range 16 {
			p = p.raised(4).plus(g.multiples[half&15])
			half >>= 4
		}
	}
	return p
}
