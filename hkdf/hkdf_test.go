package hkdf

import (
	"crypto/hkdf"
	"crypto/hmac"
	"crypto/sha256"
	"crypto/sha512"
	"encoding/hex"
	"hash"
	"math"
	"strings"
	"sync"
	"testing"
	"unsafe"

	"halberd/api"
)

// kind is one of the two hashes, with the numbers that the document gives it.
type kind struct {
	bits   int
	block  int
	digest int
	other  func() hash.Hash
}

func kinds() []kind {
	return []kind{{256, 64, 32, sha256.New}, {384, 128, 48, sha512.New384}}
}

// mac is the mac that the library tells.
func (k kind) mac(key, s string) string {
	h := hmac.New(k.other, []byte(key))
	h.Write([]byte(s))
	return string(h.Sum(nil))
}

// expanded are the bytes that the library tells.
func (k kind) expanded(t *testing.T, key, info string, size int) string {
	t.Helper()
	b, err := hkdf.Expand(k.other, []byte(key), info, size)
	if err != nil {
		t.Error(err)
	}
	return string(b)
}

// wrongBits are those of neither hash.
func wrongBits() []int {
	return []int{
		0, 1, -1, 8, 32, 48, 64, 128, 224, 255, 257, 383, 385, 512, -256, -384,
		256 + 1<<8, 256 + 1<<16, 384 + 1<<16, 256 + 1<<32, 384 + 1<<32, math.MaxInt, math.MinInt, math.MinInt + 256,
	}
}

// text gives n bytes, of which no two near each other are alike, so that a byte that goes astray is seen.
func text(n int) string {
	b := make([]byte, n)
	x := uint32(n)
	for i := range b {
		x = x*1664525 + 1013904223
		b[i] = byte(x >> 24)
	}
	return string(b)
}

// un reads hexadecimal digits.
func un(t *testing.T, s string) string {
	t.Helper()
	b, err := hex.DecodeString(s)
	if err != nil {
		t.Fatal(err)
	}
	return string(b)
}

// P3.1: the examples of RFC 4231, but for the one that cuts its mac.
func TestPublishedMacs(t *testing.T) {
	long := strings.Repeat("\xaa", 131)
	for i, c := range []struct{ key, s, mac256, mac384 string }{
		{
			strings.Repeat("\x0b", 20), "Hi There",
			"b0344c61d8db38535ca8afceaf0bf12b881dc200c9833da726e9376c2e32cff7",
			"afd03944d84895626b0825f4ab46907f15f9dadbe4101ec682aa034c7cebc59cfaea9ea9076ede7f4af152e8b2fa9cb6",
		},
		{
			"Jefe", "what do ya want for nothing?",
			"5bdcc146bf60754e6a042426089575c75a003f089d2739839dec58b964ec3843",
			"af45d2e376484031617f78d2b58a6b1b9c7ef464f5a01b47e42ec3736322445e8e2240ca5e69e2c78b3239ecfab21649",
		},
		{
			strings.Repeat("\xaa", 20), strings.Repeat("\xdd", 50),
			"773ea91e36800e46854db8ebd09181a72959098b3ef8c122d9635514ced565fe",
			"88062608d3e6ad8a0aa2ace014c8a86f0aa635d947ac9febe83ef4e55966144b2a5ab39dc13814b94e3ab6e101a34f27",
		},
		{
			un(t, "0102030405060708090a0b0c0d0e0f10111213141516171819"), strings.Repeat("\xcd", 50),
			"82558a389a443c0ea4cc819899f2083a85f0faa3e578f8077a2e3ff46729665b",
			"3e8a69b7783c25851933ab6290af6ca77a9981480850009cc5577c6e1f573b4e6801dd23c4a7d679ccf8a386c674cffb",
		},
		{
			long, "Test Using Larger Than Block-Size Key - Hash Key First",
			"60e431591ee0b67f0d8a26aacbf5b77f8e0bc6213728c5140546040f0ee37f54",
			"4ece084485813e9088d2c63a041bc5b44f9ef1012a2b588f3cd11f05033ac4c60c2ef6ab4030fe8296248df163f44952",
		},
		{
			long, "This is a test using a larger than block-size key and a larger than block-size data. The key needs to be hashed before being used by the HMAC algorithm.",
			"9b09ffa71b942fcb27635fbcd5b0e944bfdc63644f0713938a7f51535c3a35e2",
			"6617178e941f020d351e2f254e8fd32c602420feb0b8fb9adccebb82461e99c5a678cc31e799176d3860e6110c46523e",
		},
	} {
		for bits, want := range map[int]string{256: c.mac256, 384: c.mac384} {
			if got, e := Hmac(bits, c.key, c.s); got != un(t, want) || e != api.OK {
				t.Errorf("row %d, %d bits: %x, %d", i, bits, got, e)
			}
		}
	}
}

// P3.1: keys of every length about one block's and two blocks': one byte more than a block is hashed first, a block isn't.
func TestHmacWithKeysOfEveryLength(t *testing.T) {
	for _, k := range kinds() {
		for n := range 2*k.block + 3 {
			key := text(n)
			if got, e := Hmac(k.bits, key, "text"); got != k.mac(key, "text") || e != api.OK {
				t.Errorf("%d bits, a key of %d bytes: %x, %d", k.bits, n, got, e)
			}
		}
	}
}

// P3.1: texts of every length about one block's and two blocks', none too.
func TestHmacOfTextsOfEveryLength(t *testing.T) {
	for _, k := range kinds() {
		for n := range 2*k.block + 3 {
			for _, key := range []string{"", "key", text(k.block), text(k.block + 1)} {
				if got, e := Hmac(k.bits, key, text(n)); got != k.mac(key, text(n)) || len(got) != k.digest || e != api.OK {
					t.Errorf("%d bits, a key of %d bytes, a text of %d: %x, %d", k.bits, len(key), n, got, e)
				}
			}
		}
	}
}

// P3.1: any byte may stand in a key and in a text, zeros and what isn't UTF-8 too.
func TestHmacOfAnyBytes(t *testing.T) {
	for _, k := range kinds() {
		for c := range 256 {
			one := string([]byte{byte(c)})
			for _, n := range []int{1, k.block, k.block + 1} {
				key := strings.Repeat(one, n)
				if got, e := Hmac(k.bits, key, one); got != k.mac(key, one) || e != api.OK {
					t.Errorf("%d bits, %d times %d: %x, %d", k.bits, n, c, got, e)
				}
			}
		}
	}
}

// P3.1: RFC 2104 fills keys up with zeros, so that zeros behind a short key tell nothing, and a long key is one with its digest.
func TestKeysThatAreOneToTheStandard(t *testing.T) {
	for _, k := range kinds() {
		h := k.other()
		h.Write([]byte(text(1000)))
		for i, pair := range [][2]string{
			{"", strings.Repeat("\x00", k.block)}, {"key", "key\x00"}, {text(1000), string(h.Sum(nil))},
		} {
			a, _ := Hmac(k.bits, pair[0], "text")
			b, _ := Hmac(k.bits, pair[1], "text")
			if a != b || a == "" {
				t.Errorf("%d bits, pair %d: %x, %x", k.bits, i, a, b)
			}
		}
		a, _ := Hmac(k.bits, text(k.block), "text")
		if b, _ := Hmac(k.bits, text(k.block)+"\x00", "text"); a == b {
			t.Errorf("%d bits: a zero behind a block's key changes nothing", k.bits)
		}
	}
}

// P3.1: long keys and long texts.
func TestHmacOfLongTexts(t *testing.T) {
	for _, k := range kinds() {
		for _, n := range []int{65535, 65536, 65537, 1<<20 + 3} {
			for _, c := range [][2]string{{text(n), "s"}, {"k", text(n)}, {text(n), text(n + 1)}} {
				if got, e := Hmac(k.bits, c[0], c[1]); got != k.mac(c[0], c[1]) || e != api.OK {
					t.Errorf("%d bits, a key of %d bytes, a text of %d: %x, %d", k.bits, len(c[0]), len(c[1]), got, e)
				}
			}
		}
	}
}

// P3.2: Extract is Hmac with the salt as its key.
func TestExtractTakesTheSaltAsKey(t *testing.T) {
	for _, k := range kinds() {
		for _, salt := range []string{"", "salt", text(k.digest), text(k.block), text(k.block + 1), text(500)} {
			for _, key := range []string{"", "key", text(k.digest), text(300)} {
				got, e := Extract(k.bits, salt, key)
				if got != k.mac(salt, key) || e != api.OK {
					t.Errorf("%d bits, a salt of %d bytes, a key of %d: %x, %d", k.bits, len(salt), len(key), got, e)
				}
				if other, err := hkdf.Extract(k.other, []byte(key), []byte(salt)); got != string(other) || err != nil {
					t.Errorf("%d bits, a salt of %d bytes, a key of %d: %x, not %x, %v", k.bits, len(salt), len(key), got, other, err)
				}
			}
		}
	}
}

// count gives the bytes from first on, n of them.
func count(first, n int) string {
	b := make([]byte, n)
	for i := range b {
		b[i] = byte(first + i)
	}
	return string(b)
}

// P3.2: the examples of RFC 5869 for SHA-256.
func TestPublishedKeys(t *testing.T) {
	for i, c := range []struct {
		key, salt, info string
		size            int
		extracted       string
		expanded        string
	}{
		{
			strings.Repeat("\x0b", 22), count(0, 13), count(0xf0, 10), 42,
			"077709362c2e32df0ddc3f0dc47bba6390b6c73bb50f9c3122ec844ad7c2b3e5",
			"3cb25f25faacd57a90434f64d0362f2a2d2d0a90cf1a5a4c5db02d56ecc4c5bf34007208d5b887185865",
		},
		{
			count(0, 80), count(0x60, 80), count(0xb0, 80), 82,
			"06a6b88c5853361a06104c9ceb35b45cef760014904671014a193f40c15fc244",
			"b11e398dc80327a1c8e7f78c596a49344f012eda2d4efad8a050cc4c19afa97c59045a99cac7827271cb41c65e590e09" +
				"da3275600c2f09b8367793a9aca3db71cc30c58179ec3e87c14c01d5c1f3434f1d87",
		},
		{
			strings.Repeat("\x0b", 22), "", "", 42,
			"19ef24a32c717b167f33a91d6f648bdf96596776afdb6377ac434c1c293ccb04",
			"8da4e775a563c18f715f802a063c5a31b8a11f5c5ee1879ec3454e5f3c738d2d9d201395faa4b61a96c8",
		},
	} {
		key, e := Extract(256, c.salt, c.key)
		if key != un(t, c.extracted) || e != api.OK {
			t.Errorf("row %d, Extract: %x, %d", i, key, e)
		}
		if got, e := Expand(256, key, c.info, c.size); got != un(t, c.expanded) || e != api.OK {
			t.Errorf("row %d, Expand: %x, %d", i, got, e)
		}
	}
}

// P3.2: sizes about every number of digests up to a few, with keys and infos short, long and empty.
func TestExpandOfManySizes(t *testing.T) {
	for _, k := range kinds() {
		for size := range 4*k.digest + 2 {
			for _, c := range [][2]string{{"", ""}, {text(k.digest), "info"}, {text(k.block + 1), text(300)}} {
				if got, e := Expand(k.bits, c[0], c[1], size); got != k.expanded(t, c[0], c[1], size) || e != api.OK {
					t.Errorf("%d bits, a key of %d bytes, an info of %d, %d bytes: %x, %d", k.bits, len(c[0]), len(c[1]), size, got, e)
				}
			}
		}
	}
}

// P3.2: the greatest size, with the last block's number 255, and those about it.
func TestExpandToTheGreatestSize(t *testing.T) {
	for _, k := range kinds() {
		greatest := 255 * k.digest
		for _, size := range []int{254 * k.digest, 254*k.digest + 1, greatest - 1, greatest} {
			if got, e := Expand(k.bits, "key", "info", size); got != k.expanded(t, "key", "info", size) || len(got) != size || e != api.OK {
				t.Errorf("%d bits, %d bytes: %d bytes, %d", k.bits, size, len(got), e)
			}
		}
		for _, size := range []int{greatest + 1, greatest + k.digest, 65535, 65536, 1 << 32, 1<<32 + 1, 1 << 40, math.MaxInt, -1, -32, math.MinInt} {
			if got, e := Expand(k.bits, "key", "info", size); got != "" || e != api.ErrHkdfForm {
				t.Errorf("%d bits, %d bytes: %d bytes, %d", k.bits, size, len(got), e)
			}
		}
	}
}

// P3.2: no bytes may be asked for.
func TestExpandToNothing(t *testing.T) {
	for _, k := range kinds() {
		if got, e := Expand(k.bits, "key", "info", 0); got != "" || e != api.OK {
			t.Errorf("%d bits: %x, %d", k.bits, got, e)
		}
	}
}

// P3.2: a long key is worked through once and a long info once a block, so that both end soon.
func TestExpandWithLongTexts(t *testing.T) {
	key, info := text(4<<20), text(65536)
	for _, k := range kinds() {
		for _, c := range []struct {
			key, info string
			size      int
		}{{key, "info", 255 * k.digest}, {"key", info, 5*k.digest + 1}} {
			if got, e := Expand(k.bits, c.key, c.info, c.size); got != k.expanded(t, c.key, c.info, c.size) || e != api.OK {
				t.Errorf("%d bits, a key of %d bytes, an info of %d: %d", k.bits, len(c.key), len(c.info), e)
			}
		}
	}
}

// P3.3: secrets, keys and nonces of RFC 8448's simple handshake.
func TestPublishedLabels(t *testing.T) {
	early := "33ad0a1c607ec03b09e6cd9893680ce210adf300aa1f2660e1b22e10f170f92a"
	nothing := "e3b0c44298fc1c149afbf4c8996fb92427ae41e4649b934ca495991b7852b855"
	server := "b67b7d690cc16c4e75e54213cb2d37b4e9c912bcded9105d42befd59d391ad38"
	for i, c := range []struct {
		key, label, context string
		size                int
		want                string
	}{
		{early, "derived", nothing, 32, "6f2615a108c702c5678f54fc9dbab69716c076189c48250cebeac3576c3611ba"},
		{server, "key", "", 16, "3fce516009c21727d0f2e4e86ee403bc"},
		{server, "iv", "", 12, "5d313eb2671276ee13000b30"},
	} {
		if got, e := Label(256, un(t, c.key), c.label, un(t, c.context), c.size); got != un(t, c.want) || e != api.OK {
			t.Errorf("row %d: %x, %d", i, got, e)
		}
	}
}

// labelInfoOf is the info, written byte by byte.
func labelInfoOf(label, context string, size int) string {
	b := []byte{byte(size >> 8), byte(size), byte(6 + len(label))}
	b = append(b, "tls13 "+label...)
	b = append(b, byte(len(context)))
	return string(append(b, context...))
}

// P3.3: labels and contexts of every length that there is.
func TestLabelOfEveryLength(t *testing.T) {
	for _, k := range kinds() {
		key := text(k.digest)
		for n := range 256 {
			label, context := text(min(n, 249)), text(255-n)
			want := k.expanded(t, key, labelInfoOf(label, context, n), n)
			if got, e := Label(k.bits, key, label, context, n); got != want || e != api.OK {
				t.Errorf("%d bits, a label of %d bytes, a context of %d, %d bytes: %x, %d", k.bits, len(label), len(context), n, got, e)
			}
		}
	}
}

// P3.3: sizes of more than one byte, up to the greatest, stand in the info.
func TestLabelOfManySizes(t *testing.T) {
	for _, k := range kinds() {
		for _, size := range []int{0, 1, 255, 256, 257, 4096, 255*k.digest - 1, 255 * k.digest} {
			want := k.expanded(t, "key", labelInfoOf("label", "context", size), size)
			if got, e := Label(k.bits, "key", "label", "context", size); got != want || len(got) != size || e != api.OK {
				t.Errorf("%d bits, %d bytes: %d bytes, %d", k.bits, size, len(got), e)
			}
		}
	}
}

// P3.3: the size stands in the info, so that a shorter key isn't the head of a longer one.
func TestLabelsOfSeveralSizesDiffer(t *testing.T) {
	for _, k := range kinds() {
		short, _ := Label(k.bits, "key", "label", "", 16)
		if long, _ := Label(k.bits, "key", "label", "", 32); len(short) != 16 || strings.HasPrefix(long, short) {
			t.Errorf("%d bits: %x, %x", k.bits, short, long)
		}
	}
}

// P3.3, R2: a label, a context or a size too great, by one byte and by many, each by itself; sizes that wrap round to small ones too.
func TestLabelOfWrongForms(t *testing.T) {
	for _, k := range kinds() {
		for i, c := range []struct{ label, context, size int }{
			{250, 0, 1}, {251, 255, 1}, {255, 0, 1}, {256, 0, 1}, {506, 0, 1}, {65536, 0, 1},
			{0, 256, 1}, {249, 257, 1}, {0, 512, 1}, {0, 65536, 1},
			{0, 0, -1}, {0, 0, math.MinInt}, {0, 0, 255*k.digest + 1}, {0, 0, 65535}, {0, 0, 65536}, {0, 0, 65537},
			{0, 0, 1<<16 + 32}, {0, 0, 1<<32 + 32}, {0, 0, math.MaxInt}, {250, 256, -1}, {250, 0, 0}, {0, 256, 0},
		} {
			got, e := Label(k.bits, "key", strings.Repeat("l", c.label), strings.Repeat("c", c.context), c.size)
			if got != "" || e != api.ErrHkdfForm {
				t.Errorf("%d bits, row %d: %d bytes, %d", k.bits, i, len(got), e)
			}
		}
	}
}

// P3.1 to P3.3, R2: bits of neither hash, with the results beside the error, whatever else is asked.
func TestBitsOfNeitherHash(t *testing.T) {
	for _, bits := range wrongBits() {
		for _, s := range []string{"", "abc", text(300)} {
			if got, e := Hmac(bits, s, s); got != "" || e != api.ErrHkdfForm {
				t.Errorf("Hmac(%d): %x, %d", bits, got, e)
			}
			if got, e := Extract(bits, s, s); got != "" || e != api.ErrHkdfForm {
				t.Errorf("Extract(%d): %x, %d", bits, got, e)
			}
			for _, size := range []int{0, 1, 32, 12240, 12241, -1, math.MaxInt} {
				if got, e := Expand(bits, s, s, size); got != "" || e != api.ErrHkdfForm {
					t.Errorf("Expand(%d) to %d: %x, %d", bits, size, got, e)
				}
				if got, e := Label(bits, s, s, s, size); got != "" || e != api.ErrHkdfForm {
					t.Errorf("Label(%d) to %d: %x, %d", bits, size, got, e)
				}
			}
		}
	}
}

// R4: no answer shares its memory with an argument.
func TestAnswersShareNoMemory(t *testing.T) {
	for _, k := range kinds() {
		s := text(k.digest)
		a, _ := Hmac(k.bits, s, s)
		b, _ := Extract(k.bits, s, s)
		c, _ := Expand(k.bits, s, s, k.digest)
		d, _ := Label(k.bits, s, s, s, k.digest)
		seen := map[*byte]int{unsafe.StringData(s): 0}
		for _, got := range []string{a, b, c, d} {
			seen[unsafe.StringData(got)]++
		}
		if len(seen) != 5 {
			t.Errorf("%d bits: two of five texts share their memory", k.bits)
		}
	}
}

// R5: a mac is forked for each text, so that one text leaves nothing behind for the next.
func TestMacsOfOneKeyDoNotMeet(t *testing.T) {
	for _, k := range kinds() {
		m, e := keyed(k.bits, "key")
		if e != api.OK {
			t.Fatalf("%d bits: %d", k.bits, e)
		}
		for _, s := range []string{"", "a", text(200), "", "a", text(k.block), text(200)} {
			if got := m.sum(s); got != k.mac("key", s) {
				t.Errorf("%d bits, a text of %d bytes: %x", k.bits, len(s), got)
			}
			if got := m.sum(s[:len(s)/2], "", s[len(s)/2:]); got != k.mac("key", s) {
				t.Errorf("%d bits, a text of %d bytes in parts: %x", k.bits, len(s), got)
			}
		}
	}
}

// R5: the calls may be made from several goroutines at one time, and answer the same whatever was asked ahead.
func TestCallsBesideEachOther(t *testing.T) {
	var group sync.WaitGroup
	for worker := range 8 {
		group.Add(1)
		go func() {
			defer group.Done()
			k := kinds()[worker%2]
			for n := range 50 {
				key, s := text(worker*10+n), text(n)
				if got, _ := Hmac(k.bits, key, s); got != k.mac(key, s) {
					t.Errorf("worker %d, Hmac %d: %x", worker, n, got)
				}
				if got, _ := Label(k.bits, key, s, s, 3*n); got != k.expanded(t, key, labelInfoOf(s, s, 3*n), 3*n) {
					t.Errorf("worker %d, Label %d: %x", worker, n, got)
				}
			}
		}()
	}
	group.Wait()
}
