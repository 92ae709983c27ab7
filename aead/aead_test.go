package aead

import (
	"crypto/aes"
	"crypto/cipher"
	"encoding/hex"
	"math"
	"strings"
	"sync"
	"testing"
	"unsafe"

	"halberd/api"
	"halberd/poly"
)

// suites gives the three suites.
func suites() []int {
	return []int{api.SuiteAes128, api.SuiteAes256, api.SuiteChacha}
}

// some gives n bytes, of which no two near each other are alike, so that a byte that goes astray is seen.
func some(n int, seed int) string {
	b := make([]byte, n)
	x := uint32(seed)
	for i := range b {
		x = x*1664525 + 1013904223
		b[i] = byte(x >> 24)
	}
	return string(b)
}

// keyOf gives a key of a suite's size.
func keyOf(suite int, seed int) string {
	if suite == api.SuiteAes128 {
		return some(16, seed)
	}
	return some(32, seed)
}

// un reads hexadecimal digits.
func un(t *testing.T, s string) string {
	t.Helper()
	b, err := hex.DecodeString(s)
	if err != nil {
		t.Fatal(err)
	}
	return string(b)
}

// turned gives s with its i-th bit turned over.
func turned(s string, i int) string {
	b := []byte(s)
	b[i/8] ^= 0x80 >> (i % 8)
	return string(b)
}

// want is the sealed text: the library's of the two suites with AES, layer 7's of the third.
func want(t *testing.T, suite int, key, nonce, aad, s string) string {
	t.Helper()
	if suite == api.SuiteChacha {
		sealed, e := poly.Seal(key, nonce, aad, s)
		if e != api.OK {
			t.Errorf("layer 7: %d", e)
		}
		return sealed
	}
	b, err := aes.NewCipher([]byte(key))
	if err != nil {
		t.Error(err)
		return ""
	}
	c, err := cipher.NewGCM(b)
	if err != nil {
		t.Error(err)
		return ""
	}
	return string(c.Seal(nil, []byte(nonce), []byte(s), []byte(aad)))
}

// check holds a sealed text against the wanted one, and opens it.
func check(t *testing.T, suite int, key, nonce, aad, s string) {
	t.Helper()
	sealed := want(t, suite, key, nonce, aad, s)
	if got, e := Seal(suite, key, nonce, aad, s); got != sealed || e != api.OK {
		t.Errorf("Seal, suite %d: %d beside, %d bytes: %d bytes, %d", suite, len(aad), len(s), len(got), e)
	}
	if got, e := Open(suite, key, nonce, aad, sealed); got != s || e != api.OK {
		t.Errorf("Open, suite %d: %d beside, %d bytes: %d bytes, %d", suite, len(aad), len(s), len(got), e)
	}
}

// layouts is the number of ways in which split lays two pieces.
const layouts = 3

// split cuts s into two pieces that lie apart, or touch, or touch with the second one ahead, as where a ring's memory ends.
// Each has spare room behind it, if only the other one. The third answer tells whether the memory about them is as it was.
func split(s string, cut int, layout int) ([]byte, []byte, func() bool) {
	x, y, guard := s[:cut], s[cut:], some(40, len(s))
	first, second := x, y
	if layout == 2 {
		first, second = y, x
	}
	between := ""
	if layout == 0 {
		between = guard
	}
	all := []byte(guard + first + between + second + guard)
	from := len(guard) + len(first) + len(between)
	p, q := all[len(guard):len(guard)+len(first)], all[from:from+len(second)]
	same := func() bool {
		end := from + len(second)
		return string(all[:len(guard)]) == guard && string(all[end:]) == guard &&
			string(all[from-len(between):from]) == between
	}
	if layout == 2 {
		return q, p, same
	}
	return p, q, same
}

// sealInPlace checks SealIn of s, with any bytes where the tag's come to stand.
func sealInPlace(t *testing.T, suite int, key, nonce, aad, s string, cut, layout int) {
	t.Helper()
	a, b, same := split(s+some(16, 9), cut, layout)
	e := SealIn(suite, key, nonce, aad, a, b)
	if string(a)+string(b) != want(t, suite, key, nonce, aad, s) || e != api.OK {
		t.Errorf("SealIn, suite %d: %d bytes, cut at %d, layout %d: %d", suite, len(s), cut, layout, e)
	}
	if !same() {
		t.Errorf("SealIn, suite %d: %d bytes, cut at %d, layout %d: bytes beside them are changed", suite, len(s), cut, layout)
	}
}

// openInPlace checks OpenIn of s that was sealed; the tag's bytes stay.
func openInPlace(t *testing.T, suite int, key, nonce, aad, s string, cut, layout int) {
	t.Helper()
	sealed := want(t, suite, key, nonce, aad, s)
	a, b, same := split(sealed, cut, layout)
	n, e := OpenIn(suite, key, nonce, aad, a, b)
	if string(a)+string(b) != s+sealed[len(s):] || n != len(s) || e != api.OK {
		t.Errorf("OpenIn, suite %d: %d bytes, cut at %d, layout %d: %d, %d", suite, len(s), cut, layout, n, e)
	}
	if !same() {
		t.Errorf("OpenIn, suite %d: %d bytes, cut at %d, layout %d: bytes beside them are changed", suite, len(s), cut, layout)
	}
}

// refused checks that a text isn't opened, in its place neither, and that nothing stands beside the error or is changed.
func refused(t *testing.T, what string, suite int, key, nonce, aad, s string, want api.Errno) {
	t.Helper()
	if got, e := Open(suite, key, nonce, aad, s); got != "" || e != want {
		t.Errorf("Open, suite %d, %s: %d bytes, %d, not %d", suite, what, len(got), e, want)
	}
	a, b, same := split(s, len(s)/3, len(s)%layouts)
	n, e := OpenIn(suite, key, nonce, aad, a, b)
	if n != 0 || e != want || string(a)+string(b) != s || !same() {
		t.Errorf("OpenIn, suite %d, %s: %d, %d, not %d", suite, what, n, e, want)
	}
}

// unsealed checks that a text isn't sealed, in its place neither, and that nothing stands beside the error or is changed.
func unsealed(t *testing.T, what string, suite int, key, nonce, aad, s string) {
	t.Helper()
	if got, e := Seal(suite, key, nonce, aad, s); got != "" || e != api.ErrAeadForm {
		t.Errorf("Seal, suite %d, %s: %d bytes, %d", suite, what, len(got), e)
	}
	row := s + some(16, 9)
	a, b, same := split(row, len(row)/3, len(s)%layouts)
	if e := SealIn(suite, key, nonce, aad, a, b); e != api.ErrAeadForm || string(a)+string(b) != row || !same() {
		t.Errorf("SealIn, suite %d, %s: %d", suite, what, e)
	}
}

// P8.1: the sizes of the three, and of none else.
func TestSizes(t *testing.T) {
	try := func(suite, bytes, bits int, want api.Errno) {
		if gotBytes, gotBits, e := Sizes(suite); gotBytes != bytes || gotBits != bits || e != want {
			t.Errorf("Sizes(%d): %d, %d, %d", suite, gotBytes, gotBits, e)
		}
	}
	try(4865, 16, 256, api.OK)
	try(4866, 32, 384, api.OK)
	try(4867, 32, 256, api.OK)
	for suite := -70000; suite <= 70000; suite++ {
		if suite < 4865 || suite > 4867 {
			try(suite, 0, 0, api.ErrAeadForm)
		}
	}
	for _, suite := range []int{math.MinInt, math.MaxInt, 4865 + 1<<16, 4866 + 1<<32, -4867} {
		try(suite, 0, 0, api.ErrAeadForm)
	}
}

// P8.1, P8.2: sealed texts that are published: GCM's cases 4 and 16, and that of RFC 8439's section 2.8.2.
func TestPublishedSeals(t *testing.T) {
	text := "d9313225f88406e5a55909c5aff5269a86a7a9531534f7da2e4c303d8a318a721c3c0c95956809532fcf0e2449a6b525b16aedf5aa0de657ba637b39"
	aad := "feedfacedeadbeeffeedfacedeadbeefabaddad2"
	sunscreen := "Ladies and Gentlemen of the class of '99: If I could offer you only one tip for the future, sunscreen would be it."
	for _, c := range []struct {
		suite                     int
		key, nonce, aad, s, wants string
	}{
		{api.SuiteAes128, "feffe9928665731c6d6a8f9467308308", "cafebabefacedbaddecaf888", aad, text,
			"42831ec2217774244b7221b784d0d49ce3aa212f2c02a4e035c17e2329aca12e" +
				"21d514b25466931c7d8f6a5aac84aa051ba30b396a0aac973d58e091" + "5bc94fbc3221a5db94fae95ae7121a47"},
		{api.SuiteAes256, "feffe9928665731c6d6a8f9467308308feffe9928665731c6d6a8f9467308308", "cafebabefacedbaddecaf888", aad, text,
			"522dc1f099567d07f47f37a32a84427d643a8cdcbfe5c0c97598a2bd2555d1aa" +
				"8cb08e48590dbb3da7b08b1056828838c5f61e6393ba7a0abcc9f662" + "76fc6ece0f4e1768cddf8853bb2d551b"},
		{api.SuiteChacha, "808182838485868788898a8b8c8d8e8f909192939495969798999a9b9c9d9e9f", "070000004041424344454647",
			"50515253c0c1c2c3c4c5c6c7", hex.EncodeToString([]byte(sunscreen)),
			"d31a8d34648e60db7b86afbc53ef7ec2a4aded51296e08fea9e2b5a736ee62d6" +
				"3dbea45e8ca9671282fafb69da92728b1a71de0a9e060b2905d6a5b67ecd3b36" +
				"92ddbd7f2d778b8c9803aee328091b58fab324e4fad675945585808b4831d7bc" +
				"3ff4def08e4b7a9de576d26586cec64b6116" + "1ae10b594f09e26a7e902ecbd0600691"},
	} {
		key, nonce, aad, s, wants := un(t, c.key), un(t, c.nonce), un(t, c.aad), un(t, c.s), un(t, c.wants)
		if got, e := Seal(c.suite, key, nonce, aad, s); got != wants || e != api.OK {
			t.Errorf("Seal, suite %d: %x, %d, not %s", c.suite, got, e, c.wants)
		}
		if got, e := Open(c.suite, key, nonce, aad, wants); got != s || e != api.OK {
			t.Errorf("Open, suite %d: %x, %d, not %s", c.suite, got, e, c.s)
		}
		a, b, _ := split(s+some(16, 1), 33, 0)
		if e := SealIn(c.suite, key, nonce, aad, a, b); string(a)+string(b) != wants || e != api.OK {
			t.Errorf("SealIn, suite %d: %x %x, %d, not %s", c.suite, a, b, e, c.wants)
		}
		n, e := OpenIn(c.suite, key, nonce, aad, a, b)
		if string(a)+string(b) != s+wants[len(s):] || n != len(s) || e != api.OK {
			t.Errorf("OpenIn, suite %d: %x %x, %d, %d", c.suite, a, b, n, e)
		}
	}
}

// P8.1: texts, and what goes beside them, of every length about the blocks' edges.
func TestSealsOfEachLength(t *testing.T) {
	for _, suite := range suites() {
		for n := range 135 {
			for m := range 19 {
				check(t, suite, keyOf(suite, n), some(12, m), some(m, n+m), some(n, n*m))
			}
		}
	}
}

// P8.1, P8.2: long texts, those of MaxText bytes among them, and as much beside them.
func TestLongSeals(t *testing.T) {
	for _, suite := range suites() {
		key, nonce, long := keyOf(suite, 1), some(12, 2), some(api.MaxText, 3)
		for _, n := range []int{255, 256, 16384, 16385, api.MaxText - 1, api.MaxText} {
			check(t, suite, key, nonce, "", long[:n])
			check(t, suite, key, nonce, long[:n], "")
			check(t, suite, key, nonce, long[:n], long[:n])
			for i, cut := range []int{0, 1, n / 2, n - 1, n, n + 1, n + 15, n + 16} {
				sealInPlace(t, suite, key, nonce, long[:n], long[:n], cut, i%layouts)
				openInPlace(t, suite, key, nonce, long[:n], long[:n], cut, i%layouts)
			}
		}
	}
}

// P8.2: texts of many lengths at every cut, with the pieces laid in each way.
func TestEachCut(t *testing.T) {
	for _, suite := range suites() {
		for _, n := range []int{0, 1, 2, 15, 16, 17, 31, 32, 33, 63, 64, 65, 100} {
			key, nonce, aad, s := keyOf(suite, n), some(12, 1), some(n%20, 2), some(n, 3)
			for cut := range n + 16 + 1 {
				for layout := range layouts {
					sealInPlace(t, suite, key, nonce, aad, s, cut, layout)
					openInPlace(t, suite, key, nonce, aad, s, cut, layout)
				}
			}
		}
	}
}

// P8.2: a piece that is nil is an empty one.
func TestNilPieces(t *testing.T) {
	for _, suite := range suites() {
		key, nonce, s := keyOf(suite, 1), some(12, 2), some(30, 3)
		sealed := want(t, suite, key, nonce, "", s)
		for _, nilFirst := range []bool{true, false} {
			row := []byte(s + some(16, 4))
			a, b := row, []byte(nil)
			if nilFirst {
				a, b = b, a
			}
			if e := SealIn(suite, key, nonce, "", a, b); string(row) != sealed || e != api.OK {
				t.Errorf("SealIn, suite %d, the first nil: %t: %d", suite, nilFirst, e)
			}
			n, e := OpenIn(suite, key, nonce, "", a, b)
			if string(row) != s+sealed[30:] || n != 30 || e != api.OK {
				t.Errorf("OpenIn, suite %d, the first nil: %t: %d, %d", suite, nilFirst, n, e)
			}
		}
		if e := SealIn(suite, key, nonce, "", nil, nil); e != api.ErrAeadForm {
			t.Errorf("SealIn, suite %d, both nil: %d", suite, e)
		}
		if n, e := OpenIn(suite, key, nonce, "", nil, nil); n != 0 || e != api.ErrAeadTag {
			t.Errorf("OpenIn, suite %d, both nil: %d, %d", suite, n, e)
		}
	}
}

// P8.1, P8.2: of fewer bytes than a tag has, SealIn tells a wrong form, the calls that open a wrong tag.
func TestNoRoomForATag(t *testing.T) {
	for _, suite := range suites() {
		key, nonce := keyOf(suite, 1), some(12, 2)
		for n := range 16 {
			s := some(n, 3)
			refused(t, "fewer bytes than a tag", suite, key, nonce, "", s, api.ErrAeadTag)
			for cut := range n + 1 {
				for layout := range layouts {
					a, b, same := split(s, cut, layout)
					e := SealIn(suite, key, nonce, "", a, b)
					if e != api.ErrAeadForm || string(a)+string(b) != s || !same() {
						t.Errorf("SealIn, suite %d: %d bytes, cut at %d: %d", suite, n, cut, e)
					}
					m, e := OpenIn(suite, key, nonce, "", a, b)
					if m != 0 || e != api.ErrAeadTag || string(a)+string(b) != s || !same() {
						t.Errorf("OpenIn, suite %d: %d bytes, cut at %d: %d, %d", suite, n, cut, m, e)
					}
				}
			}
		}
	}
}

// P8.1, P8.2, R2, R6: sizes about the limits, for each suite and for none; the form goes ahead of the tag, and a text to be
// opened may have a tag's bytes more.
func TestWrongSizes(t *testing.T) {
	long := some(1<<17, 1)
	try := func(suite, k, n, a, s int) {
		key, nonce, aad, text := long[:k], long[:n], long[:a], long[:s]
		right := suite == api.SuiteAes128 && k == 16 || suite == api.SuiteAes256 && k == 32 || suite == api.SuiteChacha && k == 32
		right = right && n == 12 && a <= 65536
		if right && s <= 65536 {
			check(t, suite, key, nonce, aad, text)
			sealInPlace(t, suite, key, nonce, aad, text, s/2, s%layouts)
			openInPlace(t, suite, key, nonce, aad, text, s/2, s%layouts)
		} else {
			unsealed(t, "wrong sizes", suite, key, nonce, aad, text)
		}
		open := api.ErrAeadForm
		if right && s <= 65536+16 {
			open = api.ErrAeadTag
		}
		refused(t, "a text that nobody sealed", suite, key, nonce, aad, text, open)
	}
	for _, suite := range append(suites(), 0, -1, 4864, 4868, 4865+1<<16, math.MinInt, math.MaxInt) {
		for n := range 70 {
			try(suite, n, 12, 5, 20)
			try(suite, 16, n, 5, 20)
			try(suite, 32, n, 5, 20)
		}
		for _, k := range []int{0, 15, 16, 17, 24, 31, 32, 33, 16 + 1<<8, 32 + 1<<16, 1 << 17} {
			for _, n := range []int{0, 11, 12, 13, 12 + 1<<8, 1 << 17} {
				for _, s := range []int{0, 15, 16, 1 << 17} {
					try(suite, k, n, 0, s)
					try(suite, k, n, 1<<17, s)
				}
			}
		}
		for _, k := range []int{16, 32} {
			for _, a := range []int{0, 65536, 65537, 65552, 1 << 17} {
				for _, s := range []int{0, 15, 16, 17, 65536, 65537, 65551, 65552, 65553, 1 << 17} {
					try(suite, k, 12, a, s)
				}
			}
		}
	}
}

// P8.1, P8.2: a text that is too long, or has too much beside it, is of a wrong form even if its tag is right.
func TestRightTagsOfWrongSizes(t *testing.T) {
	for _, suite := range []int{api.SuiteAes128, api.SuiteAes256} {
		key, nonce, long := keyOf(suite, 1), some(12, 2), some(api.MaxText+1, 3)
		refused(t, "a byte too long", suite, key, nonce, "", want(t, suite, key, nonce, "", long), api.ErrAeadForm)
		refused(t, "a byte too much beside", suite, key, nonce, long, want(t, suite, key, nonce, long, ""), api.ErrAeadForm)
	}
}

// P8.2: pieces of any size are refused without their text being taken out.
func TestHugePieces(t *testing.T) {
	huge := make([]byte, 1<<26)
	for _, suite := range suites() {
		key, nonce := keyOf(suite, 1), some(12, 2)
		for _, c := range [][2][]byte{{huge, nil}, {nil, huge}, {huge[:1<<25], huge[1<<25:]}, {huge, huge}} {
			allocated := testing.AllocsPerRun(10, func() {
				if e := SealIn(suite, key, nonce, "", c[0], c[1]); e != api.ErrAeadForm {
					t.Errorf("SealIn, suite %d: %d and %d bytes: %d", suite, len(c[0]), len(c[1]), e)
				}
				if n, e := OpenIn(suite, key, nonce, "", c[0], c[1]); n != 0 || e != api.ErrAeadForm {
					t.Errorf("OpenIn, suite %d: %d and %d bytes: %d, %d", suite, len(c[0]), len(c[1]), n, e)
				}
			})
			if allocated != 0 {
				t.Errorf("suite %d: %d and %d bytes: memory was taken", suite, len(c[0]), len(c[1]))
			}
		}
	}
}

// P8.1, P8.2: a sealed text isn't opened if any of its bits is another, nor with any bit of key, nonce or aad turned.
func TestTurnedBits(t *testing.T) {
	for _, suite := range suites() {
		for _, n := range []int{0, 1, 16, 33} {
			key, nonce, aad, s := keyOf(suite, 1), some(12, 2), some(21, 3), some(n, 4)
			sealed := want(t, suite, key, nonce, aad, s)
			for i := range 8 * len(sealed) {
				refused(t, "its text turned", suite, key, nonce, aad, turned(sealed, i), api.ErrAeadTag)
			}
			for i := range 8 * len(key) {
				refused(t, "its key turned", suite, turned(key, i), nonce, aad, sealed, api.ErrAeadTag)
			}
			for i := range 8 * len(nonce) {
				refused(t, "its nonce turned", suite, key, turned(nonce, i), aad, sealed, api.ErrAeadTag)
			}
			for i := range 8 * len(aad) {
				refused(t, "what is beside turned", suite, key, nonce, turned(aad, i), sealed, api.ErrAeadTag)
			}
		}
	}
}

// P8.2: beside a wrong tag nothing is changed, at whatever cut.
func TestWrongTagsInPlace(t *testing.T) {
	for _, suite := range suites() {
		key, nonce, aad, s := keyOf(suite, 1), some(12, 2), some(5, 3), some(40, 4)
		bad := turned(want(t, suite, key, nonce, aad, s), 8*50)
		for cut := range len(bad) + 1 {
			for layout := range layouts {
				a, b, same := split(bad, cut, layout)
				n, e := OpenIn(suite, key, nonce, aad, a, b)
				if n != 0 || e != api.ErrAeadTag || string(a)+string(b) != bad || !same() {
					t.Errorf("suite %d, cut at %d, layout %d: %d, %d", suite, cut, layout, n, e)
				}
			}
		}
	}
}

// P8.1: a sealed text isn't opened if bytes are lost or come in, or go from beside it to it.
func TestCutAndGrown(t *testing.T) {
	for _, suite := range suites() {
		for _, n := range []int{0, 1, 16, 40} {
			key, nonce, aad, s := keyOf(suite, 1), some(12, 2), some(16, 3), strings.Repeat("\x00", n)
			sealed := want(t, suite, key, nonce, aad, s)
			for i := range len(sealed) {
				refused(t, "its end cut", suite, key, nonce, aad, sealed[:i], api.ErrAeadTag)
				refused(t, "its start cut", suite, key, nonce, aad, sealed[i+1:], api.ErrAeadTag)
			}
			refused(t, "a zero behind", suite, key, nonce, aad, sealed+"\x00", api.ErrAeadTag)
			refused(t, "a zero ahead of the tag", suite, key, nonce, aad, sealed[:n]+"\x00"+sealed[n:], api.ErrAeadTag)
			refused(t, "a zero beside", suite, key, nonce, aad+"\x00", sealed, api.ErrAeadTag)
			refused(t, "aad in the text", suite, key, nonce, "", aad+sealed, api.ErrAeadTag)
		}
	}
}

// P8.1: what one suite sealed isn't opened by another one, even with a key of the right size.
func TestOtherSuites(t *testing.T) {
	for _, suite := range suites() {
		key, nonce, s := keyOf(suite, 1), some(12, 2), some(20, 3)
		sealed, _ := Seal(suite, key, nonce, "", s)
		for _, other := range suites() {
			switch {
			case other == suite:
				continue
			case len(keyOf(other, 1)) == len(key):
				refused(t, "another suite's", other, key, nonce, "", sealed, api.ErrAeadTag)
			default:
				refused(t, "another suite's", other, key, nonce, "", sealed, api.ErrAeadForm)
			}
		}
	}
}

// R4: no answer shares its memory with an argument, nor with another answer.
func TestAnswersShareNoMemory(t *testing.T) {
	for _, suite := range suites() {
		key, nonce, s := keyOf(suite, 1), some(12, 2), some(32, 3)
		texts := []string{key, nonce, s}
		for range 2 {
			sealed, _ := Seal(suite, key, nonce, s, s)
			empty, _ := Seal(suite, key, nonce, s, "")
			back, _ := Open(suite, key, nonce, s, sealed)
			texts = append(texts, sealed, empty, back)
		}
		seen := map[*byte]int{}
		for i, x := range texts {
			if x == "" {
				t.Fatalf("text %d is empty", i)
			}
			seen[unsafe.StringData(x)] = i
		}
		if len(seen) != len(texts) {
			t.Errorf("suite %d: %d texts lie in %d places", suite, len(texts), len(seen))
		}
	}
}

// R5: calls may be made from several goroutines at one time, and answer the same whatever was asked ahead.
func TestCallsBesideEachOther(t *testing.T) {
	var group sync.WaitGroup
	for worker := range 8 {
		group.Add(1)
		go func() {
			defer group.Done()
			for n := range 60 {
				suite := suites()[n%3]
				key, nonce, aad, s := keyOf(suite, worker), some(12, n), some(n, worker), some(3*n, n)
				check(t, suite, key, nonce, aad, s)
				sealInPlace(t, suite, key, nonce, aad, s, 2*n, n%layouts)
				openInPlace(t, suite, key, nonce, aad, s, n, n%layouts)
				unsealed(t, "a wrong key", suite, some(24, worker), nonce, aad, s)
				refused(t, "a wrong tag", suite, key, nonce, aad, some(16, n), api.ErrAeadTag)
			}
		}()
	}
	group.Wait()
}

func BenchmarkSealIn(b *testing.B) {
	key, nonce, row := keyOf(api.SuiteChacha, 1), some(12, 2), []byte(some(api.MaxText+16, 3))
	for b.Loop() {
		SealIn(api.SuiteChacha, key, nonce, "", row[:1000], row[1000:])
	}
}
