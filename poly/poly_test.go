package poly

import (
	"encoding/binary"
	"encoding/hex"
	"math/big"
	"slices"
	"strings"
	"sync"
	"testing"
	"unsafe"

	"halberd/api"
	"halberd/chacha"
)

// some gives n bytes, of which no two near each other are alike, so that a byte that goes astray is seen.
func some(n int, seed int) string {
	b := make([]byte, n)
	x := uint32(seed)
	for i := range b {
		x = x*1664525 + 1013904223
		b[i] = byte(x >> 24)
	}
	return string(b)
}

// un reads hexadecimal digits.
func un(t *testing.T, s string) string {
	t.Helper()
	b, err := hex.DecodeString(s)
	if err != nil {
		t.Fatal(err)
	}
	return string(b)
}

// turned gives s with its i-th bit turned over.
func turned(s string, i int) string {
	b := []byte(s)
	b[i/8] ^= 0x80 >> (i % 8)
	return string(b)
}

// whole reads bytes as a number, the lowest first.
func whole(s string) *big.Int {
	b := []byte(s)
	slices.Reverse(b)
	return new(big.Int).SetBytes(b)
}

// bytesOf writes the lower n bytes of a number, the lowest first.
func bytesOf(x *big.Int, n int) string {
	low := new(big.Int).Mod(x, power(8*n))
	b := low.FillBytes(make([]byte, n))
	slices.Reverse(b)
	return string(b)
}

// power gives 2^n.
func power(n int) *big.Int {
	return new(big.Int).Lsh(big.NewInt(1), uint(n))
}

// prime gives 2^130 - 5.
func prime() *big.Int {
	return new(big.Int).Sub(power(130), big.NewInt(5))
}

// rule is the tag as the standard tells it, by whole numbers.
func rule(key, s string) string {
	r := []byte(key[:16])
	for _, i := range []int{3, 7, 11, 15} {
		r[i] &= 15
	}
	for _, i := range []int{4, 8, 12} {
		r[i] &= 252
	}
	factor, p, sum := whole(string(r)), prime(), new(big.Int)
	for at := 0; at < len(s); at += 16 {
		sum.Add(sum, whole(s[at:min(at+16, len(s))]+"\x01"))
		sum.Mod(sum.Mul(sum, factor), p)
	}
	return bytesOf(sum.Add(sum, whole(key[16:])), 16)
}

// filledUp gives s with zeros behind it, up to whole blocks.
func filledUp(s string) string {
	for len(s)%16 != 0 {
		s += "\x00"
	}
	return s
}

// ruleSeal is the sealed text as the standard tells it.
func ruleSeal(t *testing.T, key, nonce, aad, s string) string {
	t.Helper()
	own, e := chacha.Block(key, 0, nonce)
	c, f := chacha.Xor(key, 1, nonce, s)
	if e != api.OK || f != api.OK {
		t.Errorf("the stream: %d, %d", e, f)
		return ""
	}
	b := binary.LittleEndian.AppendUint64(nil, uint64(len(aad)))
	b = binary.LittleEndian.AppendUint64(b, uint64(len(c)))
	return c + rule(own[:32], filledUp(aad)+filledUp(c)+string(b))
}

// checkMac holds a tag against the rule's.
func checkMac(t *testing.T, key, s string) {
	t.Helper()
	want := rule(key, s)
	if got, e := Mac(key, s); got != want || e != api.OK {
		t.Errorf("Mac(%x, %d bytes): %x, %d, not %x", key, len(s), got, e, want)
	}
}

// check holds a sealed text against the rule's, and opens it.
func check(t *testing.T, key, nonce, aad, s string) {
	t.Helper()
	sealed := ruleSeal(t, key, nonce, aad, s)
	if got, e := Seal(key, nonce, aad, s); got != sealed || e != api.OK {
		t.Errorf("Seal: %d beside, %d bytes: %d bytes, %d", len(aad), len(s), len(got), e)
	}
	if got, e := Open(key, nonce, aad, sealed); got != s || e != api.OK {
		t.Errorf("Open: %d beside, %d bytes: %d bytes, %d", len(aad), len(s), len(got), e)
	}
}

// refused checks that a sealed text isn't opened, and that nothing stands beside the error.
func refused(t *testing.T, what, key, nonce, aad, s string) {
	t.Helper()
	if got, e := Open(key, nonce, aad, s); got != "" || e != api.ErrPolyForm {
		t.Errorf("Open, %s: %d bytes, %d", what, len(got), e)
	}
}

// P7.1: the tag of RFC 8439's section 2.5.2, then those of its appendix A.3.
func TestPublishedTags(t *testing.T) {
	zeros, ones := strings.Repeat("00", 16), strings.Repeat("ff", 16)
	half := "36e5f6b5c5e06070f0efca96227a863e"
	ietf := hex.EncodeToString([]byte("Any submission to the IETF intended by the Contributor for publication as all or part of an IETF " +
		"Internet-Draft or RFC and any statement made within the context of an IETF activity is considered an \"IETF Contribution\". " +
		"Such statements include oral statements in IETF sessions, as well as written and electronic communications made at any time " +
		"or place, which are addressed to"))
	twas := hex.EncodeToString([]byte("'Twas brillig, and the slithy toves\nDid gyre and gimble in the wabe:\nAll mimsy were the " +
		"borogoves,\nAnd the mome raths outgrabe."))
	one, two := "01"+zeros[2:], "02"+zeros[2:]
	far := "0100000000000000" + "0400000000000000"
	row := "e33594d7505e43b90000000000000000" + "3394d7505e4379cd0100000000000000" + zeros
	for i, c := range []struct{ key, s, want string }{
		{"85d6be7857556d337f4452fe42d506a80103808afb0db2fd4abff6af4149f51b",
			hex.EncodeToString([]byte("Cryptographic Forum Research Group")), "a8061dc1305136c6c22b8baf0c0127a9"},
		{zeros + zeros, strings.Repeat(zeros, 4), zeros},
		{zeros + half, ietf, half},
		{half + zeros, ietf, "f3477e7cd95417af89a6b8794c310cf0"},
		{"1c9240a5eb55d38af333888604f6b5f0473917c1402b80099dca5cbc207075c0", twas, "4541669a7eaaee61e708dc7cbcc5eb62"},
		{two + zeros, ones, "03" + zeros[2:]},
		{two + ones, two, "03" + zeros[2:]},
		{one + zeros, ones + "f0" + ones[2:] + "11" + zeros[2:], "05" + zeros[2:]},
		{one + zeros, ones + "fb" + strings.Repeat("fe", 15) + strings.Repeat("01", 16), zeros},
		{two + zeros, "fd" + ones[2:], "fa" + ones[2:]},
		{far + zeros, row + one, "14000000000000005500000000000000"},
		{far + zeros, row, "13" + zeros[2:]},
	} {
		if got, e := Mac(un(t, c.key), un(t, c.s)); got != un(t, c.want) || e != api.OK {
			t.Errorf("row %d: %x, %d, not %s", i, got, e, c.want)
		}
	}
}

// P7.1: texts of every length about the blocks' edges, of nothing on, of zeros and of ones too.
func TestTagsOfEachLength(t *testing.T) {
	for n := range 260 {
		checkMac(t, some(32, n), some(n, n+1))
		checkMac(t, some(32, n), strings.Repeat("\x00", n))
		checkMac(t, some(32, n), strings.Repeat("\xff", n))
		checkMac(t, strings.Repeat("\xff", 32), strings.Repeat("\xff", n))
	}
	key := some(32, 1)
	if got, e := Mac(key, ""); got != key[16:] || e != api.OK {
		t.Errorf("nothing: %x, %d", got, e)
	}
}

// P7.1: keys and texts of which every bit is set by itself, and of which every bit but one is; cleared bits among them.
func TestTagsOfEachBit(t *testing.T) {
	for _, fill := range []string{"\x00", "\xff"} {
		key, s := strings.Repeat(fill, 32), strings.Repeat(fill, 40)
		checkMac(t, key, s)
		for i := range 8 * 32 {
			checkMac(t, turned(key, i), s)
			checkMac(t, turned(key, i), some(40, i))
		}
		for i := range 8 * 40 {
			checkMac(t, key, turned(s, i))
			checkMac(t, some(32, i), turned(s, i))
		}
	}
}

// P7.1: with the factor 1 the blocks are added up: sums about the prime, its neighbours of 26 bits, 2^128, 2^129, 2^130
// and twice the prime, with pads that go past 2^128 and that don't.
func TestSumsAboutThePrime(t *testing.T) {
	one := "\x01" + strings.Repeat("\x00", 15)
	pads := []string{strings.Repeat("\x00", 16), strings.Repeat("\xff", 16), strings.Repeat("\xff", 8) + one[:8], some(16, 1)}
	middles := []*big.Int{prime(), power(130), new(big.Int).Add(prime(), prime()), power(131)}
	for _, n := range []int{26, 52, 64, 78, 104, 128, 129} {
		middles = append(middles, new(big.Int).Add(prime(), power(n)), new(big.Int).Sub(power(130), power(n)))
	}
	for _, middle := range middles {
		for d := -9; d <= 9; d++ {
			total := new(big.Int).Add(middle, big.NewInt(int64(d)))
			s := blocksOf(t, total)
			for _, pad := range pads {
				checkMac(t, one+pad, s)
				if got, _ := Mac(one+pad, s); got != bytesOf(new(big.Int).Add(total.Mod(total, prime()), whole(pad)), 16) {
					t.Errorf("%x, pad %x: %x", total, pad, got)
				}
			}
		}
	}
}

// blocksOf gives whole blocks which, with the 1 behind each, add up to a number of at least 2^128.
func blocksOf(t *testing.T, total *big.Int) string {
	t.Helper()
	// So many that what is left for their bytes is at most 2^128 - 1 for each.
	n := 1
	for rest(total, n).Cmp(new(big.Int).Mul(big.NewInt(int64(n)), new(big.Int).Sub(power(128), big.NewInt(1)))) > 0 {
		n++
	}
	left, s := rest(total, n), ""
	if left.Sign() < 0 {
		t.Fatalf("%x is no sum of %d blocks", total, n)
	}
	for range n {
		x := new(big.Int).Sub(power(128), big.NewInt(1))
		if left.Cmp(x) < 0 {
			x.Set(left)
		}
		s += bytesOf(x, 16)
		left.Sub(left, x)
	}
	return s
}

// rest gives what is left for the bytes of n blocks.
func rest(total *big.Int, n int) *big.Int {
	return new(big.Int).Sub(total, new(big.Int).Mul(big.NewInt(int64(n)), power(128)))
}

// P7.1: the limbs by themselves, as full as they come in: against whole numbers, with none that goes past a word.
func TestFullLimbs(t *testing.T) {
	value := func(a number) *big.Int {
		x := new(big.Int)
		for i := len(a) - 1; i >= 0; i-- {
			x.Add(x.Lsh(x, 26), new(big.Int).SetUint64(a[i]))
		}
		return x
	}
	limit := []uint64{0, 1, limbMask - 5, limbMask - 4, limbMask, limbMask + 1, 1<<27 - 1, 1<<28 - 1}
	var all []number
	for _, x := range limit {
		for _, y := range limit {
			all = append(all, number{x, y, y, y, y}, number{y, x, y, y, y}, number{x, y, x, y, x}, number{y, y, y, y, x})
		}
	}
	for _, a := range all {
		for _, b := range all {
			got := a.times(b)
			for i, x := range got {
				if x > limbMask && i != 1 || x > 1<<27-1 {
					t.Fatalf("%x times %x: limbs %x", a, b, got)
				}
			}
			want := new(big.Int).Mul(value(a), value(b))
			if value(got.reduced()).Cmp(want.Mod(want, prime())) != 0 {
				t.Fatalf("%x times %x: %x, not %x", a, b, got.reduced(), want)
			}
		}
	}
}

// P7.1: rows in which each tag makes the next one's key and text.
func TestRowsOfTags(t *testing.T) {
	key, s := some(32, 1), some(100, 2)
	for n := range 3000 {
		checkMac(t, key, s)
		tag := rule(key, s)
		key, s = key[16:]+tag, s[n%30:]+tag+tag[:n%15]
		if len(s) > 200 {
			s = s[100:]
		}
	}
}

// P7.1: a text is not held to MaxText; in a long one the limbs stay small.
func TestLongTags(t *testing.T) {
	for _, n := range []int{16384, api.MaxText - 1, api.MaxText, api.MaxText + 1, api.MaxText + 17, 1<<20 + 5} {
		checkMac(t, some(32, n), some(n, 1))
		checkMac(t, strings.Repeat("\xff", 32), strings.Repeat("\xff", n))
	}
}

// P7.1, R2: keys of every other size, with the result beside the error.
func TestWrongKeys(t *testing.T) {
	long := some(1<<20, 1)
	sizes := []int{32 + 1<<8, 32 + 1<<16, 1 << 20}
	for n := range 130 {
		sizes = append(sizes, n)
	}
	for _, k := range sizes {
		for _, n := range []int{0, 1, 16, 32, 100} {
			got, e := Mac(long[:k], long[:n])
			if k == 32 && (len(got) != 16 || e != api.OK) || k != 32 && (got != "" || e != api.ErrPolyForm) {
				t.Errorf("a key of %d bytes, a text of %d: %x, %d", k, n, got, e)
			}
		}
	}
}

// P7.2: the sealed texts of RFC 8439's section 2.8.2 and of its appendix A.5.
func TestPublishedSeals(t *testing.T) {
	for i, c := range []struct{ key, nonce, aad, s, want string }{
		{"808182838485868788898a8b8c8d8e8f909192939495969798999a9b9c9d9e9f", "070000004041424344454647", "50515253c0c1c2c3c4c5c6c7",
			"Ladies and Gentlemen of the class of '99: If I could offer you only one tip for the future, sunscreen would be it.",
			"d31a8d34648e60db7b86afbc53ef7ec2a4aded51296e08fea9e2b5a736ee62d6" +
				"3dbea45e8ca9671282fafb69da92728b1a71de0a9e060b2905d6a5b67ecd3b36" +
				"92ddbd7f2d778b8c9803aee328091b58fab324e4fad675945585808b4831d7bc" +
				"3ff4def08e4b7a9de576d26586cec64b6116" + "1ae10b594f09e26a7e902ecbd0600691"},
		{"1c9240a5eb55d38af333888604f6b5f0473917c1402b80099dca5cbc207075c0", "000000000102030405060708", "f33388860000000000004e91",
			"Internet-Drafts are draft documents valid for a maximum of six months and may be updated, replaced, or obsoleted by " +
				"other documents at any time. It is inappropriate to use Internet-Drafts as reference material or to cite them other " +
				"than as /\xe2\x80\x9cwork in progress./\xe2\x80\x9d",
			"64a0861575861af460f062c79be643bd5e805cfd345cf389f108670ac76c8cb2" +
				"4c6cfc18755d43eea09ee94e382d26b0bdb7b73c321b0100d4f03b7f355894cf" +
				"332f830e710b97ce98c8a84abd0b948114ad176e008d33bd60f982b1ff37c855" +
				"9797a06ef4f0ef61c186324e2b3506383606907b6a7c02b0f9f6157b53c867e4" +
				"b9166c767b804d46a59b5216cde7a4e99040c5a40433225ee282a1b0a06c523e" +
				"af4534d7f83fa1155b0047718cbc546a0d072b04b3564eea1b422273f548271a" +
				"0bb2316053fa76991955ebd63159434ecebb4e466dae5a1073a6727627097a10" +
				"49e617d91d361094fa68f0ff77987130305beaba2eda04df997b714d6c6f2c29" +
				"a6ad5cb4022b02709b" + "eead9d67890cbb22392336fea1851f38"},
	} {
		key, nonce, aad, want := un(t, c.key), un(t, c.nonce), un(t, c.aad), un(t, c.want)
		if got, e := Seal(key, nonce, aad, c.s); got != want || e != api.OK {
			t.Errorf("Seal, row %d: %x, %d, not %s", i, got, e, c.want)
		}
		if got, e := Open(key, nonce, aad, want); got != c.s || e != api.OK {
			t.Errorf("Open, row %d: %q, %d, not %q", i, got, e, c.s)
		}
	}
}

// P7.2: texts, and what goes beside them, of every length about the blocks' edges.
func TestSealsOfEachLength(t *testing.T) {
	for n := range 135 {
		for m := range 35 {
			check(t, some(32, n), some(12, m), some(m, n+m), some(n, n*m))
		}
	}
}

// P7.2: keys, nonces and texts of which every bit is set by itself, and of which every bit but one is.
func TestSealsOfEachBit(t *testing.T) {
	for _, fill := range []string{"\x00", "\xff"} {
		key, nonce, s := strings.Repeat(fill, 32), strings.Repeat(fill, 12), strings.Repeat(fill, 20)
		check(t, key, nonce, s, s)
		for i := range 8 * 32 {
			check(t, turned(key, i), nonce, s, s)
		}
		for i := range 8 * 12 {
			check(t, key, turned(nonce, i), s, s)
		}
		for i := range 8 * 20 {
			check(t, key, nonce, s, turned(s, i))
			check(t, key, nonce, turned(s, i), s)
		}
	}
}

// P7.2: long texts, those of MaxText bytes among them, whose lengths take more than two bytes.
func TestLongSeals(t *testing.T) {
	key, nonce, long := some(32, 1), some(12, 2), some(api.MaxText, 3)
	for _, n := range []int{255, 256, 257, 16384, 16385, api.MaxText - 16, api.MaxText - 1, api.MaxText} {
		check(t, key, nonce, "", long[:n])
		check(t, key, nonce, long[:n], "")
		check(t, key, nonce, long[:n], long[:n])
	}
}

// P7.2, R2: sizes about the limits; Open's text may have a tag's bytes more than Seal's.
func TestWrongSizes(t *testing.T) {
	long := some(1<<20, 1)
	try := func(k, n, a, s int) {
		seal := api.ErrPolyForm
		if k == 32 && n == 12 && a <= 65536 && s <= 65536 {
			seal = api.OK
		}
		got, e := Seal(long[:k], long[:n], long[:a], long[:s])
		if e != seal || e == api.OK && len(got) != s+16 || e != api.OK && got != "" {
			t.Errorf("Seal, sizes %d, %d, %d, %d: %d bytes, %d", k, n, a, s, len(got), e)
		}
		refused(t, "a text that nobody sealed", long[:k], long[:n], long[:a], long[:s])
	}
	for n := range 70 {
		try(n, 12, 5, 20)
		try(32, n, 5, 20)
	}
	for _, k := range []int{0, 16, 31, 32, 33, 32 + 1<<8, 32 + 1<<16, 1 << 20} {
		for _, n := range []int{0, 8, 11, 12, 13, 16, 24, 12 + 1<<8, 12 + 1<<16, 1 << 20} {
			for _, s := range []int{0, 15, 16, 1 << 20} {
				try(k, n, 0, s)
				try(k, n, 1<<20, s)
			}
		}
	}
	for _, a := range []int{0, 1, 65535, 65536, 65537, 65552, 65553, 1 << 17, 1 << 20} {
		for _, s := range []int{0, 1, 15, 16, 17, 65535, 65536, 65537, 65551, 65552, 65553, 1 << 17, 1 << 20} {
			try(32, 12, a, s)
		}
	}
}

// P7.2: a text that is a byte too long, or that has a byte too much beside it, isn't opened even if its tag is right.
func TestRightTagsOfWrongSizes(t *testing.T) {
	key, nonce, long := some(32, 1), some(12, 2), some(api.MaxText+1, 3)
	own, _ := chacha.Block(key, 0, nonce)
	lengths := func(a, s int) string {
		b := binary.LittleEndian.AppendUint64(nil, uint64(a))
		return string(binary.LittleEndian.AppendUint64(b, uint64(s)))
	}
	for n := api.MaxText - 1; n <= api.MaxText+1; n++ {
		s := long[:n]
		beside := rule(own[:32], filledUp(s)+lengths(n, 0))
		sealed := s + rule(own[:32], filledUp(s)+lengths(0, n))
		if n > api.MaxText {
			refused(t, "a byte too much beside", key, nonce, s, beside)
			refused(t, "a byte too long", key, nonce, "", sealed)
			continue
		}
		if got, e := Open(key, nonce, s, beside); got != "" || e != api.OK {
			t.Errorf("%d bytes beside: %d bytes, %d", n, len(got), e)
		}
		if got, e := Open(key, nonce, "", sealed); len(got) != n || e != api.OK {
			t.Errorf("%d bytes: %d bytes, %d", n, len(got), e)
		}
	}
}

// P7.2: a sealed text isn't opened if any of its bits is another, nor with any bit of key, nonce or aad turned.
func TestTurnedBits(t *testing.T) {
	for _, n := range []int{0, 1, 16, 33, 64, 70} {
		key, nonce, aad, s := some(32, 1), some(12, 2), some(21, 3), some(n, 4)
		sealed := ruleSeal(t, key, nonce, aad, s)
		for i := range 8 * len(sealed) {
			refused(t, "its text turned", key, nonce, aad, turned(sealed, i))
		}
		for i := range 8 * len(key) {
			refused(t, "its key turned", turned(key, i), nonce, aad, sealed)
		}
		for i := range 8 * len(nonce) {
			refused(t, "its nonce turned", key, turned(nonce, i), aad, sealed)
		}
		for i := range 8 * len(aad) {
			refused(t, "what is beside turned", key, nonce, turned(aad, i), sealed)
		}
	}
}

// P7.2: a sealed text isn't opened if bytes are lost or come in, at either end, even if they are zeros or go from aad to it.
func TestCutAndGrown(t *testing.T) {
	for _, n := range []int{0, 1, 15, 16, 17, 40} {
		key, nonce, aad, s := some(32, 1), some(12, 2), some(15, 3)+"\x00", strings.Repeat("\x00", n)
		sealed := ruleSeal(t, key, nonce, aad, s)
		for i := range len(sealed) {
			refused(t, "its end cut", key, nonce, aad, sealed[:i])
			refused(t, "its start cut", key, nonce, aad, sealed[i+1:])
		}
		end := len(sealed) - 16
		refused(t, "a zero behind", key, nonce, aad, sealed+"\x00")
		refused(t, "a zero ahead", key, nonce, aad, "\x00"+sealed)
		refused(t, "a zero ahead of the tag", key, nonce, aad, sealed[:end]+"\x00"+sealed[end:])
		refused(t, "a zero beside", key, nonce, aad+"\x00", sealed)
		refused(t, "less beside", key, nonce, aad[:15], sealed)
		refused(t, "aad in the text", key, nonce, "", aad+sealed)
		if n > 0 {
			refused(t, "the text in aad", key, nonce, aad+sealed[:end], sealed[end:])
		}
	}
}

// R4: no answer shares its memory with an argument, nor with another answer.
func TestAnswersShareNoMemory(t *testing.T) {
	key, nonce, s := some(32, 1), some(12, 2), some(32, 3)
	texts := []string{key, nonce, s}
	for range 2 {
		tag, _ := Mac(key, s)
		pad, _ := Mac(key, "")
		sealed, _ := Seal(key, nonce, s, s)
		empty, _ := Seal(key, nonce, s, "")
		back, _ := Open(key, nonce, s, sealed)
		texts = append(texts, tag, pad, sealed, empty, back)
	}
	seen := map[*byte]int{}
	for i, x := range texts {
		if x == "" {
			t.Fatalf("text %d is empty", i)
		}
		seen[unsafe.StringData(x)] = i
	}
	if len(seen) != len(texts) {
		t.Errorf("%d texts lie in %d places", len(texts), len(seen))
	}
}

// R5: calls may be made from several goroutines at one time, and answer the same whatever was asked ahead.
func TestCallsBesideEachOther(t *testing.T) {
	var group sync.WaitGroup
	for worker := range 8 {
		group.Add(1)
		go func() {
			defer group.Done()
			for n := range 50 {
				key, nonce := some(32, worker), some(12, n)
				check(t, key, nonce, some(n, worker), some(3*n, n))
				checkMac(t, key, some(5*n, worker))
				refused(t, "a wrong key", some(31, worker), nonce, "", some(16, n))
				refused(t, "a wrong tag", key, nonce, "", some(16, n))
			}
		}()
	}
	group.Wait()
}

func BenchmarkMac(b *testing.B) {
	key, s := some(32, 1), some(api.MaxText, 2)
	for b.Loop() {
		Mac(key, s)
	}
}

func BenchmarkSeal(b *testing.B) {
	key, nonce, s := some(32, 1), some(12, 2), some(api.MaxText, 3)
	for b.Loop() {
		Seal(key, nonce, "", s)
	}
}
