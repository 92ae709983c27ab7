package aes

import (
	"crypto/aes"
	"encoding/hex"
	"math/bits"
	"strings"
	"sync"
	"testing"
	"unsafe"

	"halberd/api"
)

// some gives n bytes, of which no two near each other are alike, so that a byte that goes astray is seen.
func some(n int, seed int) string {
	b := make([]byte, n)
	x := uint32(seed)
	for i := range b {
		x = x*1664525 + 1013904223
		b[i] = byte(x >> 24)
	}
	return string(b)
}

// un reads hexadecimal digits.
func un(t *testing.T, s string) string {
	t.Helper()
	b, err := hex.DecodeString(s)
	if err != nil {
		t.Fatal(err)
	}
	return string(b)
}

// want is the block that the library tells.
func want(t *testing.T, key, s string) string {
	t.Helper()
	c, err := aes.NewCipher([]byte(key))
	if err != nil {
		t.Error(err)
		return ""
	}
	b := make([]byte, len(s))
	c.Encrypt(b, []byte(s))
	return string(b)
}

// check holds a block against the library's.
func check(t *testing.T, key, s string) {
	t.Helper()
	if got, e := Block(key, s); got != want(t, key, s) || e != api.OK {
		t.Errorf("Block(%x, %x): %x, %d", key, s, got, e)
	}
}

// P4.1: the examples of FIPS 197 and of NIST SP 800-38A.
func TestPublishedBlocks(t *testing.T) {
	short := "2b7e151628aed2a6abf7158809cf4f3c"
	long := "603deb1015ca71be2b73aef0857d77811f352c073b6108d72d9810a30914dff4"
	row := "000102030405060708090a0b0c0d0e0f101112131415161718191a1b1c1d1e1f"
	for _, c := range []struct{ key, s, want string }{
		{short, "3243f6a8885a308d313198a2e0370734", "3925841d02dc09fbdc118597196a0b32"},
		{row[:32], "00112233445566778899aabbccddeeff", "69c4e0d86a7b0430d8cdb78070b4c55a"},
		{row, "00112233445566778899aabbccddeeff", "8ea2b7ca516745bfeafc49904b496089"},
		{short, "6bc1bee22e409f96e93d7e117393172a", "3ad77bb40d7a3660a89ecaf32466ef97"},
		{short, "ae2d8a571e03ac9c9eb76fac45af8e51", "f5d3d58503b9699de785895a96fdbaaf"},
		{short, "30c81c46a35ce411e5fbc1191a0a52ef", "43b1cd7f598ece23881b00e3ed030688"},
		{short, "f69f2445df4f9b17ad2b417be66c3710", "7b0c785e27e8ad3f8223207104725dd4"},
		{long, "6bc1bee22e409f96e93d7e117393172a", "f3eed1bdb5d2a03c064b5a7e3db181f8"},
		{long, "ae2d8a571e03ac9c9eb76fac45af8e51", "591ccb10d410ed26dc5ba74a31362870"},
		{long, "30c81c46a35ce411e5fbc1191a0a52ef", "b6ed21b99ca6f4f9f153e7b1beafed1d"},
		{long, "f69f2445df4f9b17ad2b417be66c3710", "23304b7a39f9f3ff067d8d8f9e24ecc7"},
	} {
		if got, e := Block(un(t, c.key), un(t, c.s)); got != un(t, c.want) || e != api.OK {
			t.Errorf("Block(%s, %s): %x, %d, not %s", c.key, c.s, got, e, c.want)
		}
	}
}

// P4.1: keys and texts of which every bit is set by itself, and of which every bit but one is.
func TestEachBit(t *testing.T) {
	for _, size := range []int{16, 32} {
		for _, fill := range []string{"\x00", "\xff"} {
			key, s := strings.Repeat(fill, size), strings.Repeat(fill, 16)
			check(t, key, s)
			for i := range 8 * size {
				check(t, turned(key, i), s)
			}
			for i := range 8 * 16 {
				check(t, key, turned(s, i))
			}
		}
	}
}

// turned gives s with its i-th bit turned over.
func turned(s string, i int) string {
	b := []byte(s)
	b[i/8] ^= 0x80 >> (i % 8)
	return string(b)
}

// P4.1: every byte at every place of the key and of the text.
func TestEachByte(t *testing.T) {
	for _, size := range []int{16, 32} {
		for x := range 256 {
			key, s := some(size, x), some(16, x+1)
			for i := range size {
				check(t, key[:i]+string([]byte{byte(x)})+key[i+1:], s)
			}
			for i := range 16 {
				check(t, key, s[:i]+string([]byte{byte(x)})+s[i+1:])
			}
		}
	}
}

// P4.1: rows in which each block is the next one's text, and makes the next one's key.
func TestRowsOfBlocks(t *testing.T) {
	for _, size := range []int{16, 32} {
		key, s := some(size, 1), some(16, 2)
		for range 5000 {
			check(t, key, s)
			next, _ := Block(key, s)
			if len(next) != 16 {
				t.Fatalf("a key of %d bytes: a block of %d", size, len(next))
			}
			key, s = next+key[:size-16], next
		}
	}
}

// P4.1, R2: keys and texts of every other length, each by itself and both, with the result beside the error.
func TestWrongSizes(t *testing.T) {
	lengths := []int{48, 64, 128, 192, 256, 16 + 1<<8, 32 + 1<<8, 16 + 1<<16, 32 + 1<<16, 1 << 20}
	for n := range 41 {
		lengths = append(lengths, n)
	}
	long := some(1<<20, 1)
	for _, k := range lengths {
		for _, n := range lengths {
			got, e := Block(long[:k], long[:n])
			if right := (k == 16 || k == 32) && n == 16; right {
				if len(got) != 16 || e != api.OK {
					t.Errorf("a key of %d bytes, a text of %d: %x, %d", k, n, got, e)
				}
			} else if got != "" || e != api.ErrAesForm {
				t.Errorf("a key of %d bytes, a text of %d: %x, %d", k, n, got, e)
			}
		}
	}
}

// P4.1: the table of bytes is the one of the standard's rule: the inverse in the field, then a matrix and a constant.
func TestTableFollowsTheRule(t *testing.T) {
	for x, got := range substitutes() {
		y := inverse(byte(x))
		rule := byte(0x63)
		for n := range 5 {
			rule ^= bits.RotateLeft8(y, n)
		}
		if got != rule {
			t.Errorf("the substitute of %02x: %02x, not %02x", x, got, rule)
		}
	}
}

// inverse gives the byte whose product with x is 1, of 0 it gives 0.
func inverse(x byte) byte {
	for y := range 256 {
		if product(x, byte(y)) == 1 {
			return byte(y)
		}
	}
	return 0
}

// product multiplies two bytes in the field of 256, bit by bit.
func product(x, y byte) byte {
	p := 0
	for i := 7; i >= 0; i-- {
		p <<= 1
		if p > 255 {
			p ^= 0x11b
		}
		if y>>i&1 == 1 {
			p ^= int(x)
		}
	}
	return byte(p)
}

// P4.1: a column's product by the standard's matrix, byte by byte.
func TestMixedColumns(t *testing.T) {
	for n := range 1000 {
		s := some(16, n)
		var in state
		for i := range in {
			in[i] = word(s, i)
		}
		b := make([]byte, 16)
		for i := range b {
			c, row := s[i/4*4:i/4*4+4], i%4
			b[i] = product(2, c[row]) ^ product(3, c[(row+1)%4]) ^ c[(row+2)%4] ^ c[(row+3)%4]
		}
		if got := text(mixed(in)); got != string(b) {
			t.Errorf("%x: %x, not %x", s, got, b)
		}
	}
}

// P4.1: keys of rounds that FIPS 197 tells, the last ones among them.
func TestPublishedRoundKeys(t *testing.T) {
	short := keyed(un(t, "2b7e151628aed2a6abf7158809cf4f3c"))
	long := keyed(un(t, "603deb1015ca71be2b73aef0857d77811f352c073b6108d72d9810a30914dff4"))
	if short.rounds != 10 || long.rounds != 14 {
		t.Errorf("rounds: %d, %d", short.rounds, long.rounds)
	}
	for at, want := range map[int]uint32{0: 0x2b7e1516, 3: 0x09cf4f3c, 4: 0xa0fafe17, 7: 0x2a6c7605, 36: 0xac7766f3, 40: 0xd014f9a8, 43: 0xb6630ca6} {
		if short.keys[at] != want {
			t.Errorf("16 bytes, word %d: %08x, not %08x", at, short.keys[at], want)
		}
	}
	for at, want := range map[int]uint32{0: 0x603deb10, 7: 0x0914dff4, 8: 0x9ba35411, 12: 0xa8b09c1a, 56: 0xfe4890d1, 59: 0x706c631e} {
		if long.keys[at] != want {
			t.Errorf("32 bytes, word %d: %08x, not %08x", at, long.keys[at], want)
		}
	}
}

// R4: no answer shares its memory with an argument, nor with another answer.
func TestAnswersShareNoMemory(t *testing.T) {
	s := some(16, 1)
	a, _ := Block(s, s)
	b, _ := Block(s, s)
	seen := map[*byte]int{unsafe.StringData(s): 0, unsafe.StringData(a): 0, unsafe.StringData(b): 0}
	if len(seen) != 3 || a != b {
		t.Errorf("two of three texts share their memory, or %x isn't %x", a, b)
	}
}

// R5: blocks may be made from several goroutines at one time, and are the same whatever was asked ahead.
func TestBlocksBesideEachOther(t *testing.T) {
	var group sync.WaitGroup
	for worker := range 8 {
		group.Add(1)
		go func() {
			defer group.Done()
			for n := range 200 {
				check(t, some(16+16*(n%2), worker), some(16, n))
				if got, e := Block(some(24, worker), some(16, n)); got != "" || e != api.ErrAesForm {
					t.Errorf("worker %d, a wrong key: %x, %d", worker, got, e)
				}
			}
		}()
	}
	group.Wait()
}

func BenchmarkBlock(b *testing.B) {
	key, s := some(32, 1), some(16, 2)
	for b.Loop() {
		Block(key, s)
	}
}
