package gcm

import (
	"halberd/aes"
	"halberd/api"
	"halberd/wire"
)

// What a counter's blocks are for.
const (
	tagBlock  = 1
	textBlock = 2 // that of the text's first bytes; the next ones follow
)

// cipher is a key with the nonce of one text.
type cipher struct {
	key     string
	nonce   string
	hashKey element
}

// keyed gives the cipher of a key and a nonce.
func keyed(key string, nonce string) (cipher, api.Errno) {
	zeros, e := aes.Block(key, string(make([]byte, blockSize)))
	if e != api.OK || len(nonce) != nonceSize {
		return cipher{}, api.ErrGcmForm
	}
	return cipher{key: key, nonce: nonce, hashKey: readElement(zeros)}, api.OK
}

// mask gives the counter's n-th block, enciphered.
func (c cipher) mask(n int) string {
	// Neither call refuses: keyed has seen both sizes, and the longest text has few blocks.
	counter, _ := wire.Put(n, blockSize-nonceSize)
	b, _ := aes.Block(c.key, c.nonce+counter)
	return b
}

// masked adds the counter's blocks to s, which makes a ciphertext of a plaintext and the other way round.
func (c cipher) masked(s string) string {
	b := make([]byte, len(s))
	mask := ""
	for i := range b {
		if i%blockSize == 0 {
			mask = c.mask(textBlock + i/blockSize)
		}
		b[i] = s[i] ^ mask[i%blockSize]
	}
	return string(b)
}

// tag gives the tag of a ciphertext and of what goes beside it.
func (c cipher) tag(aad string, sealed string) string {
	g := keyedHash(c.hashKey)
	g.write(aad)
	g.write(sealed)
	// The lengths, in bits, keep the two apart.
	g.add(element{high: 8 * uint64(len(aad)), low: 8 * uint64(len(sealed))})
	return g.sum.plus(readElement(c.mask(tagBlock))).text()
}
