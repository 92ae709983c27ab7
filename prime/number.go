package prime

// A number's limbs, and the bits of one.
const (
	limbs    = 8
	limbBits = 32
)

// size is a number's bytes.
const size = limbs * limbBits / 8

// Number is one below 2^256: its limbs, the lowest first. Those that a Field takes are below its prime.
type Number [limbs]uint32

// number reads 32 bytes, the highest first.
func number(s string) Number {
	var n Number
	for i := range size {
		limb := limbs - 1 - i/4
		n[limb] = n[limb]<<8 | uint32(s[i])
	}
	return n
}

// Text writes a number as 32 bytes, the highest first.
func (n Number) Text() string {
	b := make([]byte, 0, size)
	for i := range n {
		x := n[limbs-1-i]
		b = append(b, byte(x>>24), byte(x>>16), byte(x>>8), byte(x))
	}
	return string(b)
}

// Zero tells whether a number is 0.
func (n Number) Zero() bool {
	return n == Number{}
}

// plus gives the sum modulo 2^256, and whether it went past that.
func (n Number) plus(m Number) (Number, bool) {
	carry := uint64(0)
	for i := range n {
		sum := uint64(n[i]) + uint64(m[i]) + carry
		n[i] = uint32(sum)
		carry = sum >> limbBits
	}
	return n, carry != 0
}

// minus gives the difference modulo 2^256, and whether it went below 0.
func (n Number) minus(m Number) (Number, bool) {
	borrow := uint64(0)
	for i := range n {
		rest := uint64(n[i]) - uint64(m[i]) - borrow
		n[i] = uint32(rest)
		borrow = rest >> 63
	}
	return n, borrow != 0
}

// bit gives the i-th bit, the lowest first.
func (n Number) bit(i int) uint32 {
	return n[i/limbBits] >> (i % limbBits) & 1
}

// wide is a product of two numbers: its limbs, the lowest first.
type wide [2 * limbs]uint32

// product gives the whole product of two numbers.
func product(a Number, b Number) wide {
	var w wide
	for i, x := range a {
		w[i+limbs] = w.add(i, x, b)
	}
	return w
}

// add adds factor times n from the limb at on, to as many limbs as n has, and gives the carry out of the last of them.
func (w *wide) add(at int, factor uint32, n Number) uint32 {
	row := w[at : at+limbs]
	carry := uint64(0)
	for i, x := range n {
		// It fits: the greatest product of limbs leaves room for two more of them.
		sum := uint64(factor)*uint64(x) + uint64(row[i]) + carry
		row[i] = uint32(sum)
		carry = sum >> limbBits
	}
	return uint32(carry)
}

// low gives the lower half.
func (w *wide) low() Number {
	var n Number
	copy(n[:], w[:limbs])
	return n
}
