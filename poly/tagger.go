package poly

// Bits of the factor's two words that are kept: RFC 8439 clears the others.
const (
	keptLow  = 0x0ffffffc0fffffff
	keptHigh = 0x0ffffffc0ffffffc
)

// tagger is a tag under way: a polynomial of the blocks, at the factor.
type tagger struct {
	factor  number
	sum     number
	padLow  uint64 // the pad is added at the end
	padHigh uint64
}

// keyed gives the tagger of a key of 32 bytes, with nothing written.
func keyed(key string) *tagger {
	return &tagger{
		factor:  limbs(word(key[:8])&keptLow, word(key[8:16])&keptHigh, 0),
		padLow:  word(key[16:24]),
		padHigh: word(key[24:]),
	}
}

// write takes the blocks of s in; the last one may be short.
func (t *tagger) write(s string) {
	for ; len(s) >= blockSize; s = s[blockSize:] {
		t.add(limbs(word(s[:8]), word(s[8:blockSize]), 1))
	}
	if s != "" {
		// The 1 stands behind the last byte, as it does behind a whole block, so that zeros at the end count.
		b := filled(s + "\x01")
		t.add(limbs(word(b[:8]), word(b[8:]), 0))
	}
}

// writeFilled takes the blocks of s in, the last one filled up with zeros.
func (t *tagger) writeFilled(s string) {
	whole := len(s) - len(s)%blockSize
	t.write(s[:whole])
	if whole < len(s) {
		t.write(filled(s[whole:]))
	}
}

// add takes one block in.
func (t *tagger) add(block number) {
	t.sum = t.sum.plus(block).times(t.factor)
}

// tag gives the tag of what has been written.
func (t *tagger) tag() string {
	low, high := t.sum.reduced().words()
	low, high = sum128(low, high, t.padLow, t.padHigh)
	b := make([]byte, tagSize)
	for i := range 8 {
		b[i] = byte(low >> (8 * i))
		b[8+i] = byte(high >> (8 * i))
	}
	return string(b)
}

// filled gives at most a block's bytes with zeros behind them, so that they are a block.
func filled(s string) string {
	return s + string(make([]byte, blockSize-len(s)))
}

// word reads eight bytes, the lowest first.
func word(s string) uint64 {
	x := uint64(0)
	for i := range 8 {
		x |= uint64(s[i]) << (8 * i)
	}
	return x
}
