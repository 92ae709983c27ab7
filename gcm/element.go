package gcm

// element is one of the field of 2^128: a polynomial in x, modulo x^128 + x^7 + x^2 + x + 1. The highest bit of high is
// the coefficient of 1, the lowest bit of low that of x^127.
type element struct {
	high uint64
	low  uint64
}

// readElement reads a block of 16 bytes.
func readElement(s string) element {
	return element{high: word(s[:8]), low: word(s[8:])}
}

// word reads eight bytes.
func word(s string) uint64 {
	x := uint64(0)
	for i := range 8 {
		x = x<<8 | uint64(s[i])
	}
	return x
}

// text writes the element as a block.
func (e element) text() string {
	b := make([]byte, 0, blockSize)
	for shift := 56; shift >= 0; shift -= 8 {
		b = append(b, byte(e.high>>shift))
	}
	for shift := 56; shift >= 0; shift -= 8 {
		b = append(b, byte(e.low>>shift))
	}
	return string(b)
}

// plus gives the sum of two elements.
func (e element) plus(f element) element {
	return element{high: e.high ^ f.high, low: e.low ^ f.low}
}

// raised gives e times x^n; n is at most 57, so that what comes in for x^128 has room in the upper word.
func (e element) raised(n uint) element {
	over := e.low << (64 - n)
	return element{
		high: e.high>>n ^ over ^ over>>1 ^ over>>2 ^ over>>7,
		low:  e.low>>n | e.high<<(64-n),
	}
}
