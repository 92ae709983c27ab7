package hkdf

import (
	"halberd/api"
	"halberd/sha"
)

// Bytes that RFC 2104 mixes into a key, for each of the two hashes.
const (
	innerPad = 0x36
	outerPad = 0x5c
)

// mac holds the two hashes of a key, each with the key's block written. They are forked for each text, never written, so
// that the key is worked through once, however many macs are made with it.
type mac struct {
	inner *sha.Hash
	outer *sha.Hash
}

// keyed gives the mac of a key of any length.
func keyed(bits int, key string) (mac, api.Errno) {
	empty, e := sha.New(bits)
	if e != api.OK {
		return mac{}, api.ErrHkdfForm
	}
	block := blockSize(bits)
	if len(key) > block {
		key = after(empty, key).Sum()
	}
	return mac{
		inner: after(empty, padded(key, block, innerPad)),
		outer: after(empty, padded(key, block, outerPad)),
	}, api.OK
}

// sum gives the mac of the parts, one behind the other.
func (m mac) sum(parts ...string) string {
	return after(m.outer, after(m.inner, parts...).Sum()).Sum()
}

// stream gives the first size bytes of RFC 5869's blocks, each of which is a mac of the one before, of info and of its number.
func (m mac) stream(info string, size int) string {
	var out []byte
	last := ""
	for i := 1; len(out) < size; i++ {
		last = m.sum(last, info, string([]byte{byte(i)}))
		out = append(out, last...)
	}
	return string(out[:size])
}

// after gives a fork of h with the parts written behind; h stays as it is.
func after(h *sha.Hash, parts ...string) *sha.Hash {
	f := h.Fork()
	for _, s := range parts {
		f.Write(s)
	}
	return f
}

// padded fills a key, which fits, up with zeros to a block and mixes pad into each byte.
func padded(key string, block int, pad byte) string {
	b := make([]byte, block)
	copy(b, key)
	for i := range b {
		b[i] ^= pad
	}
	return string(b)
}

// blockSize is the size in bytes of the hash's blocks.
func blockSize(bits int) int {
	if bits == 256 {
		return 64
	}
	return 128
}

// digestSize is the size in bytes of the hash's digests.
func digestSize(bits int) int {
	return bits / 8
}
