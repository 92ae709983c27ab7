package gcm

import (
	"crypto/aes"
	library "crypto/cipher"
	"encoding/hex"
	"math/big"
	"strings"
	"sync"
	"testing"
	"unsafe"

	"halberd/api"
)

// some gives n bytes, of which no two near each other are alike, so that a byte that goes astray is seen.
func some(n int, seed int) string {
	b := make([]byte, n)
	x := uint32(seed)
	for i := range b {
		x = x*1664525 + 1013904223
		b[i] = byte(x >> 24)
	}
	return string(b)
}

// un reads hexadecimal digits.
func un(t *testing.T, s string) string {
	t.Helper()
	b, err := hex.DecodeString(s)
	if err != nil {
		t.Fatal(err)
	}
	return string(b)
}

// turned gives s with its i-th bit turned over.
func turned(s string, i int) string {
	b := []byte(s)
	b[i/8] ^= 0x80 >> (i % 8)
	return string(b)
}

// want is what the library seals.
func want(t *testing.T, key, nonce, aad, s string) string {
	t.Helper()
	b, err := aes.NewCipher([]byte(key))
	if err != nil {
		t.Error(err)
		return ""
	}
	c, err := library.NewGCM(b)
	if err != nil {
		t.Error(err)
		return ""
	}
	return string(c.Seal(nil, []byte(nonce), []byte(s), []byte(aad)))
}

// check holds a sealed text against the library's, and opens it.
func check(t *testing.T, key, nonce, aad, s string) {
	t.Helper()
	sealed := want(t, key, nonce, aad, s)
	if got, e := Seal(key, nonce, aad, s); got != sealed || e != api.OK {
		t.Errorf("Seal: a key of %d bytes, %d beside, %d bytes: %d bytes, %d", len(key), len(aad), len(s), len(got), e)
	}
	if got, e := Open(key, nonce, aad, sealed); got != s || e != api.OK {
		t.Errorf("Open: a key of %d bytes, %d beside, %d bytes: %d bytes, %d", len(key), len(aad), len(s), len(got), e)
	}
}

// refused checks that a sealed text isn't opened, and that nothing stands beside the error.
func refused(t *testing.T, what, key, nonce, aad, s string, want api.Errno) {
	t.Helper()
	if got, e := Open(key, nonce, aad, s); got != "" || e != want {
		t.Errorf("Open, %s: %d bytes, %d, not %d", what, len(got), e, want)
	}
}

// number reads a block as a polynomial: the n-th bit of the number is the coefficient of x^n.
func number(s string) *big.Int {
	x := new(big.Int)
	for i := range 128 {
		x.SetBit(x, i, uint(s[i/8]>>(7-i%8)&1))
	}
	return x
}

// block writes a polynomial as a block.
func block(x *big.Int) string {
	b := make([]byte, 16)
	for i := range 128 {
		b[i/8] |= byte(x.Bit(i)) << (7 - i%8)
	}
	return string(b)
}

// product multiplies two polynomials bit by bit and takes the rest by the field's.
func product(x, y *big.Int) *big.Int {
	p := new(big.Int)
	for i := range 128 {
		if y.Bit(i) == 1 {
			p.Xor(p, new(big.Int).Lsh(x, uint(i)))
		}
	}
	field := new(big.Int).SetBit(big.NewInt(0x87), 128, 1)
	for i := 254; i >= 128; i-- {
		if p.Bit(i) == 1 {
			p.Xor(p, new(big.Int).Lsh(field, uint(i-128)))
		}
	}
	return p
}

// rule is GHASH as the standard tells it.
func rule(h, s string) string {
	sum := new(big.Int)
	for ; s != ""; s = s[16:] {
		sum = product(sum.Xor(sum, number(s[:16])), number(h))
	}
	return block(sum)
}

// checkHash holds a hash against the rule's.
func checkHash(t *testing.T, h, s string) {
	t.Helper()
	if got, e := Hash(h, s); got != rule(h, s) || e != api.OK {
		t.Errorf("Hash(%x, %d bytes): %x, %d, not %x", h, len(s), got, e, rule(h, s))
	}
}

// P5.1: the steps of GHASH that are told with the first test cases of the mode.
func TestPublishedHashes(t *testing.T) {
	h := "66e94bd4ef8a2c3b884cfa59ca342b2e"
	for _, c := range []struct{ h, s, want string }{
		{h, "00000000000000000000000000000000", "00000000000000000000000000000000"},
		{h, "0388dace60b6a392f328c2b971b2fe78", "5e2ec746917062882c85b0685353deb7"},
		{h, "0388dace60b6a392f328c2b971b2fe7800000000000000000000000000000080", "f38cbb1ad69223dcc3457ae5b6b0f885"},
	} {
		if got, e := Hash(un(t, c.h), un(t, c.s)); got != un(t, c.want) || e != api.OK {
			t.Errorf("Hash(%s, %s): %x, %d, not %s", c.h, c.s, got, e, c.want)
		}
	}
}

// P5.1: keys and blocks of one bit each, which are the powers of x, and of all bits but one.
func TestHashOfEachBit(t *testing.T) {
	for _, fill := range []string{"\x00", "\xff"} {
		all := strings.Repeat(fill, 16)
		checkHash(t, all, all)
		for i := range 128 {
			checkHash(t, turned(all, i), some(16, i))
			checkHash(t, some(16, i), turned(all, i))
			checkHash(t, turned(all, i), turned(all, 127-i))
			checkHash(t, turned(all, 127), turned(all, i))
		}
	}
}

// P5.1: texts of nothing, of one block, of many.
func TestHashOfManyBlocks(t *testing.T) {
	for n := range 40 {
		checkHash(t, some(16, n), some(16*n, n+1))
	}
	checkHash(t, some(16, 1), some(16*1000, 2))
	if got, e := Hash(some(16, 1), ""); got != strings.Repeat("\x00", 16) || e != api.OK {
		t.Errorf("nothing: %x, %d", got, e)
	}
}

// P5.1: a text is not held to MaxText, and its hash follows from that of its parts.
func TestHashOfALongText(t *testing.T) {
	h, s := some(16, 1), some(1<<20, 2)
	first, e := Hash(h, s[:1<<19])
	if e != api.OK {
		t.Fatal(e)
	}
	// What has been hashed is added to the next block.
	next := make([]byte, 16)
	for i := range next {
		next[i] = first[i] ^ s[1<<19+i]
	}
	rest, e := Hash(h, string(next)+s[1<<19+16:])
	if e != api.OK {
		t.Fatal(e)
	}
	if got, e := Hash(h, s); got != rest || e != api.OK {
		t.Errorf("%x, %d, not %x", got, e, rest)
	}
}

// P5.1, R2: keys and texts of wrong sizes, each by itself and both, with the result beside the error.
func TestHashOfWrongSizes(t *testing.T) {
	long := some(1<<17, 1)
	lengths := []int{1<<16 - 1, 1 << 16, 1<<16 + 1, 1<<16 + 16}
	for n := range 50 {
		lengths = append(lengths, n)
	}
	for _, k := range lengths {
		for _, n := range lengths {
			got, e := Hash(long[:k], long[:n])
			if k == 16 && n%16 == 0 {
				if len(got) != 16 || e != api.OK {
					t.Errorf("a key of %d bytes, a text of %d: %x, %d", k, n, got, e)
				}
			} else if got != "" || e != api.ErrGcmForm {
				t.Errorf("a key of %d bytes, a text of %d: %x, %d", k, n, got, e)
			}
		}
	}
}

// P5.2: the mode's published test cases with nonces of 12 bytes, with keys of 16 bytes (1 to 4) and of 32 (13 to 16).
func TestPublishedSeals(t *testing.T) {
	zeros := strings.Repeat("00", 16)
	half := "feffe9928665731c6d6a8f9467308308"
	nonce := "cafebabefacedbaddecaf888"
	aad := "feedfacedeadbeeffeedfacedeadbeefabaddad2"
	s := "d9313225f88406e5a55909c5aff5269a86a7a9531534f7da2e4c303d8a318a72" +
		"1c3c0c95956809532fcf0e2449a6b525b16aedf5aa0de657ba637b391aafd255"
	short := "42831ec2217774244b7221b784d0d49ce3aa212f2c02a4e035c17e2329aca12e" +
		"21d514b25466931c7d8f6a5aac84aa051ba30b396a0aac973d58e091473f5985"
	long := "522dc1f099567d07f47f37a32a84427d643a8cdcbfe5c0c97598a2bd2555d1aa" +
		"8cb08e48590dbb3da7b08b1056828838c5f61e6393ba7a0abcc9f662898015ad"
	for _, c := range []struct{ key, nonce, aad, s, want string }{
		{zeros, zeros[:24], "", "", "58e2fccefa7e3061367f1d57a4e7455a"},
		{zeros, zeros[:24], "", zeros, "0388dace60b6a392f328c2b971b2fe78ab6e47d42cec13bdf53a67b21257bddf"},
		{half, nonce, "", s, short + "4d5c2af327cd64a62cf35abd2ba6fab4"},
		{half, nonce, aad, s[:120], short[:120] + "5bc94fbc3221a5db94fae95ae7121a47"},
		{zeros + zeros, zeros[:24], "", "", "530f8afbc74536b9a963b4f1c4cb738b"},
		{zeros + zeros, zeros[:24], "", zeros, "cea7403d4d606b6e074ec5d3baf39d18d0d1c8a799996bf0265b98b5d48ab919"},
		{half + half, nonce, "", s, long + "b094dac5d93471bdec1a502270e3cc6c"},
		{half + half, nonce, aad, s[:120], long[:120] + "76fc6ece0f4e1768cddf8853bb2d551b"},
	} {
		key, nonce, aad, s, want := un(t, c.key), un(t, c.nonce), un(t, c.aad), un(t, c.s), un(t, c.want)
		if got, e := Seal(key, nonce, aad, s); got != want || e != api.OK {
			t.Errorf("Seal of %s: %x, %d, not %s", c.s, got, e, c.want)
		}
		if got, e := Open(key, nonce, aad, want); got != s || e != api.OK {
			t.Errorf("Open of %s: %x, %d, not %s", c.want, got, e, c.s)
		}
	}
}

// P5.2: texts, and what goes beside them, of every length about the blocks' edges.
func TestSealsOfEachLength(t *testing.T) {
	for _, size := range []int{16, 32} {
		for n := range 67 {
			for m := range 67 {
				check(t, some(size, n), some(12, m), some(m, n+m), some(n, n*m))
			}
		}
	}
}

// P5.2: keys, nonces and texts of which every bit is set by itself, and of which every bit but one is.
func TestSealsOfEachBit(t *testing.T) {
	for _, size := range []int{16, 32} {
		for _, fill := range []string{"\x00", "\xff"} {
			key, nonce, s := strings.Repeat(fill, size), strings.Repeat(fill, 12), strings.Repeat(fill, 20)
			check(t, key, nonce, s, s)
			for i := range 8 * size {
				check(t, turned(key, i), nonce, s, s)
			}
			for i := range 8 * 12 {
				check(t, key, turned(nonce, i), s, s)
			}
			for i := range 8 * 20 {
				check(t, key, nonce, s, turned(s, i))
				check(t, key, nonce, turned(s, i), s)
			}
		}
	}
}

// P5.2: long texts, those of MaxText bytes among them, in which the counter goes past one byte and past 4,096.
func TestLongSeals(t *testing.T) {
	for _, size := range []int{16, 32} {
		key, nonce, long := some(size, 1), some(12, 2), some(api.MaxText, 3)
		for _, n := range []int{16 * 253, 16 * 254, 16*254 + 1, 16 * 255, 16 * 256, 16384, 16385, api.MaxText - 16, api.MaxText - 1, api.MaxText} {
			check(t, key, nonce, "", long[:n])
			check(t, key, nonce, long[:n], "")
			check(t, key, nonce, long[:n], long[:n])
		}
	}
}

// P5.2, R2: sizes about the limits; Open's text may have a tag's bytes more than Seal's, and its form goes ahead of its tag.
func TestWrongSizes(t *testing.T) {
	long := some(1<<20, 1)
	right := func(k, n, a int) bool {
		return (k == 16 || k == 32) && n == 12 && a <= api.MaxText
	}
	try := func(k, n, a, s int) {
		seal, open := api.ErrGcmForm, api.ErrGcmForm
		if right(k, n, a) && s <= 65536 {
			seal = api.OK
		}
		if right(k, n, a) && s <= 65536+16 {
			open = api.ErrGcmTag
		}
		got, e := Seal(long[:k], long[:n], long[:a], long[:s])
		if e != seal || e == api.OK && len(got) != s+16 || e != api.OK && got != "" {
			t.Errorf("Seal, sizes %d, %d, %d, %d: %d bytes, %d", k, n, a, s, len(got), e)
		}
		if got, e := Open(long[:k], long[:n], long[:a], long[:s]); e != open || got != "" {
			t.Errorf("Open, sizes %d, %d, %d, %d: %d bytes, %d", k, n, a, s, len(got), e)
		}
	}
	for n := range 70 {
		try(n, 12, 5, 20)
		try(16, n, 5, 20)
		try(32, n, 5, 20)
	}
	for _, k := range []int{0, 15, 16, 17, 24, 31, 32, 33, 16 + 1<<8, 16 + 1<<16, 1 << 20} {
		for _, n := range []int{0, 8, 11, 12, 13, 16, 12 + 1<<8, 12 + 1<<16, 1 << 20} {
			for _, s := range []int{0, 15, 16, 1 << 20} {
				try(k, n, 0, s)
				try(k, n, 1<<20, s)
			}
		}
	}
	for _, a := range []int{0, 1, 65535, 65536, 65537, 65552, 65553, 1 << 17, 1 << 20} {
		for _, s := range []int{0, 1, 15, 16, 17, 65535, 65536, 65537, 65551, 65552, 65553, 1 << 17, 1 << 20} {
			try(16, 12, a, s)
		}
	}
}

// P5.2: a sealed text isn't opened if any of its bits is another, nor with any bit of key, nonce or aad turned.
func TestTurnedBits(t *testing.T) {
	for _, size := range []int{16, 32} {
		for _, n := range []int{0, 1, 16, 33} {
			key, nonce, aad, s := some(size, 1), some(12, 2), some(21, 3), some(n, 4)
			sealed := want(t, key, nonce, aad, s)
			for i := range 8 * len(sealed) {
				refused(t, "its text turned", key, nonce, aad, turned(sealed, i), api.ErrGcmTag)
			}
			for i := range 8 * len(key) {
				refused(t, "its key turned", turned(key, i), nonce, aad, sealed, api.ErrGcmTag)
			}
			for i := range 8 * len(nonce) {
				refused(t, "its nonce turned", key, turned(nonce, i), aad, sealed, api.ErrGcmTag)
			}
			for i := range 8 * len(aad) {
				refused(t, "what is beside turned", key, nonce, turned(aad, i), sealed, api.ErrGcmTag)
			}
		}
	}
}

// P5.2: a sealed text isn't opened if bytes are lost or come in, at either end, even if they are zeros or go from aad to it.
func TestCutAndGrown(t *testing.T) {
	for _, n := range []int{0, 1, 15, 16, 17, 40} {
		key, nonce, aad, s := some(16, 1), some(12, 2), some(16, 3), strings.Repeat("\x00", n)
		sealed := want(t, key, nonce, aad, s)
		for i := range len(sealed) {
			refused(t, "its end cut", key, nonce, aad, sealed[:i], api.ErrGcmTag)
			refused(t, "its start cut", key, nonce, aad, sealed[i+1:], api.ErrGcmTag)
		}
		end := len(sealed) - 16
		refused(t, "a zero behind", key, nonce, aad, sealed+"\x00", api.ErrGcmTag)
		refused(t, "a zero ahead", key, nonce, aad, "\x00"+sealed, api.ErrGcmTag)
		refused(t, "a zero ahead of the tag", key, nonce, aad, sealed[:end]+"\x00"+sealed[end:], api.ErrGcmTag)
		refused(t, "a zero beside", key, nonce, aad+"\x00", sealed, api.ErrGcmTag)
		refused(t, "less beside", key, nonce, aad[:15], sealed, api.ErrGcmTag)
		refused(t, "aad in the text", key, nonce, "", aad+sealed, api.ErrGcmTag)
		if n > 0 {
			refused(t, "the text in aad", key, nonce, aad+sealed[:end], sealed[end:], api.ErrGcmTag)
		}
	}
}

// R4: no answer shares its memory with an argument, nor with another answer.
func TestAnswersShareNoMemory(t *testing.T) {
	key, nonce, s := some(16, 1), some(12, 2), some(32, 3)
	texts := []string{key, nonce, s}
	for range 2 {
		h, _ := Hash(key, s)
		sealed, _ := Seal(key, nonce, s, s)
		back, _ := Open(key, nonce, s, sealed)
		texts = append(texts, h, sealed, back)
	}
	seen := map[*byte]int{}
	for i, x := range texts {
		if x == "" {
			t.Fatalf("text %d is empty", i)
		}
		seen[unsafe.StringData(x)] = i
	}
	if len(seen) != len(texts) {
		t.Errorf("%d texts lie in %d places", len(texts), len(seen))
	}
}

// R5: calls may be made from several goroutines at one time, and answer the same whatever was asked ahead.
func TestCallsBesideEachOther(t *testing.T) {
	var group sync.WaitGroup
	for worker := range 8 {
		group.Add(1)
		go func() {
			defer group.Done()
			for n := range 50 {
				key, nonce := some(16+16*(n%2), worker), some(12, n)
				check(t, key, nonce, some(n, worker), some(3*n, n))
				checkHash(t, some(16, worker), some(16*(n%5), n))
				refused(t, "a wrong key", some(24, worker), nonce, "", some(16, n), api.ErrGcmForm)
				refused(t, "a wrong tag", key, nonce, "", some(16, n), api.ErrGcmTag)
			}
		}()
	}
	group.Wait()
}

func BenchmarkHash(b *testing.B) {
	h, s := some(16, 1), some(api.MaxText, 2)
	for b.Loop() {
		Hash(h, s)
	}
}

func BenchmarkSeal(b *testing.B) {
	key, nonce, s := some(32, 1), some(12, 2), some(api.MaxText, 3)
	for b.Loop() {
		Seal(key, nonce, "", s)
	}
}
