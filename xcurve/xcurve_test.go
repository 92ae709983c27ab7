package xcurve

import (
	"crypto/ecdh"
	"encoding/hex"
	"math/big"
	"strings"
	"sync"
	"testing"
	"unsafe"

	"halberd/api"
)

// some gives n bytes, of which no two near each other are alike, so that a byte that goes astray is seen.
func some(n int, seed int) string {
	b := make([]byte, n)
	x := uint32(seed)
	for i := range b {
		x = x*1664525 + 1013904223
		b[i] = byte(x >> 24)
	}
	return string(b)
}

// un reads hexadecimal digits.
func un(t *testing.T, digits string) string {
	t.Helper()
	b, err := hex.DecodeString(digits)
	if err != nil {
		t.Fatal(err)
	}
	return string(b)
}

// modulus gives 2^255 - 19.
func modulus() *big.Int {
	m := new(big.Int).Lsh(big.NewInt(1), 255)
	return m.Sub(m, big.NewInt(19))
}

// text writes a number as 32 bytes, the lowest first.
func text(x *big.Int) string {
	b := x.FillBytes(make([]byte, 32))
	for i := range 16 {
		b[i], b[31-i] = b[31-i], b[i]
	}
	return string(b)
}

// digit writes a small number.
func digit(n int64) string {
	return text(big.NewInt(n))
}

// offset writes the modulus and n.
func offset(n int64) string {
	m := modulus()
	return text(m.Add(m, big.NewInt(n)))
}

// flipped gives s with its i-th bit the other way, the lowest first.
func flipped(s string, i int) string {
	b := []byte(s)
	b[i/8] ^= 1 << (i % 8)
	return string(b)
}

// shared gives what is shared, with which nothing may be wrong.
func shared(t *testing.T, k, u string) string {
	t.Helper()
	s, e := Shared(k, u)
	if e != api.OK || len(s) != 32 {
		t.Fatalf("%x, %x: %x, %d", k, u, s, e)
	}
	return s
}

// public gives what one shows, with which nothing may be wrong.
func public(t *testing.T, k string) string {
	t.Helper()
	s, e := Public(k)
	if e != api.OK || len(s) != 32 {
		t.Fatalf("%x: %x, %d", k, s, e)
	}
	return s
}

// check holds what is shared against the library's.
func check(t *testing.T, k, u string) {
	t.Helper()
	own, err := ecdh.X25519().NewPrivateKey([]byte(k))
	if err != nil {
		t.Errorf("%x: %v", k, err)
		return
	}
	other, err := ecdh.X25519().NewPublicKey([]byte(u))
	if err != nil {
		t.Errorf("%x: %v", u, err)
		return
	}
	want, err := own.ECDH(other)
	if err != nil { // it is 0
		zero(t, k, u)
		return
	}
	if got, e := Shared(k, u); got != string(want) || e != api.OK {
		t.Errorf("%x, %x: %x, %d, want %x", k, u, got, e, want)
	}
}

// checkPublic holds what one shows against the library's, and against what is shared with 9.
func checkPublic(t *testing.T, k string) {
	t.Helper()
	own, err := ecdh.X25519().NewPrivateKey([]byte(k))
	if err != nil {
		t.Errorf("%x: %v", k, err)
		return
	}
	got, e := Public(k)
	if got != string(own.PublicKey().Bytes()) || e != api.OK {
		t.Errorf("%x: %x, %d", k, got, e)
	}
	if same, e := Shared(k, digit(9)); same != got || e != api.OK {
		t.Errorf("%x and 9: %x, %d, want %x", k, same, e, got)
	}
}

// zero checks that 0 is shared, and that nothing stands beside the error.
func zero(t *testing.T, k, u string) {
	t.Helper()
	if got, e := Shared(k, u); got != "" || e != api.ErrXcurveZero {
		t.Errorf("%x, %x: %x, %d", k, u, got, e)
	}
}

// refused checks that a text is not taken, and that nothing stands beside the error.
func refused(t *testing.T, k, u string) {
	t.Helper()
	if got, e := Shared(k, u); got != "" || e != api.ErrXcurveForm {
		t.Errorf("%d and %d bytes: %x, %d", len(k), len(u), got, e)
	}
}

// orders gives the coordinates, below 2^255, of which clamped scalars make 0.
func orders(t *testing.T) []string {
	t.Helper()
	return []string{
		digit(0),
		digit(1),
		un(t, "e0eb7a7c3b41b8ae1656e3faf19fc46ada098deb9c32b1fd866205165f49b800"),
		un(t, "5f9c95bca3508c24b1d0b1559c83ef5b04445cc4581c8e86d8224eddd09f1157"),
		offset(-1),
		offset(0),
		offset(1),
	}
}

// P10.1: RFC 7748's rows, 5.2.
func TestStandardRows(t *testing.T) {
	for _, c := range [][3]string{
		{
			"a546e36bf0527c9d3b16154b82465edd62144c0ac1fc5a18506a2244ba449ac4",
			"e6db6867583030db3594c1a424b15f7c726624ec26b3353b10a903a6d0ab1c4c",
			"c3da55379de9c6908e94ea4df28d084f32eccf03491c71f754b4075577a28552",
		},
		{
			"4b66e9d4d1b4673c5ad22691957d6af5c11b6421e0ea01d42ca4169e7918ba0d",
			"e5210f12786811d3f4b7959d0538ae2c31dbe7106fc03c3efc4cd549c715a493",
			"95cbde9476e8907d7aade45cb4b873f88b595a68799fa152e6f8f7647aac7957",
		},
	} {
		if got, e := Shared(un(t, c[0]), un(t, c[1])); got != un(t, c[2]) || e != api.OK {
			t.Errorf("%s, %s: %x, %d", c[0], c[1], got, e)
		}
	}
}

// P10.1: RFC 7748's row of scalars and points that come out of each other, 5.2.
func TestStandardRounds(t *testing.T) {
	wanted := map[int]string{
		1:    "422c8e7a6227d7bca1350b3e2bb7279f7897b87bb6854b783c60e80311ae3079",
		1000: "684cf59ba83309552800ef566f2f4d3c1c3887c49360e3875f2eb94d99532c51",
	}
	k, u := digit(9), digit(9)
	last := 1000
	if testing.Short() {
		last = 1
	}
	for n := range last {
		k, u = shared(t, k, u), k
		if want, ok := wanted[n+1]; ok && k != un(t, want) {
			t.Errorf("behind %d rounds: %x", n+1, k)
		}
	}
}

// P10.1: RFC 7748's two that share a text, 6.1.
func TestStandardPair(t *testing.T) {
	a := un(t, "77076d0a7318a57d3c16c17251b26645df4c2f87ebc0992ab177fba51db92c2a")
	b := un(t, "5dab087e624a8a4b79e17f8b83800ee66f3bb1292618b6fd1c2f8b27ff88e0eb")
	p := un(t, "8520f0098930a754748b7ddcb43ef75a0dbf3a0d26381af4eba4a98eaa9b4e6a")
	q := un(t, "de9edb7d7b7dc1b4d35b61c2ece435373f8343c85b78674dadfc7e146f882b4f")
	want := un(t, "4a5d9d5ba4ce2de1728e3bf480350f25e07e21c947d19e3376f09b3c1e161742")
	if x, y := public(t, a), public(t, b); x != p || y != q {
		t.Errorf("shown: %x, %x", x, y)
	}
	if x, y := shared(t, a, q), shared(t, b, p); x != want || y != want {
		t.Errorf("shared: %x, %x", x, y)
	}
}

// P10.1: any scalars and points.
func TestManyTexts(t *testing.T) {
	for seed := range 300 {
		check(t, some(32, seed), some(32, 3*seed+1000))
		checkPublic(t, some(32, seed))
	}
}

// P10.1: two share one text, whatever their scalars.
func TestPairs(t *testing.T) {
	for seed := range 100 {
		a, b := some(32, seed), some(32, seed+5000)
		if x, y := shared(t, a, public(t, b)), shared(t, b, public(t, a)); x != y {
			t.Errorf("%x, %x: %x, %x", a, b, x, y)
		}
	}
}

// P10.1: scalars and points at which a bit, a limb or a byte begins or ends.
func TestEdges(t *testing.T) {
	m := modulus()
	var points []string
	about := func(x *big.Int) {
		for d := int64(-2); d <= 2; d++ {
			y := new(big.Int).Add(x, big.NewInt(d))
			if y.Sign() >= 0 && y.BitLen() <= 256 {
				points = append(points, text(y))
			}
		}
	}
	about(new(big.Int).Rsh(m, 1))
	for n := 0; n <= 256; n += 16 {
		x := new(big.Int).Lsh(big.NewInt(1), uint(n))
		about(x)
		about(new(big.Int).Sub(m, x))
	}
	scalars := []string{digit(0), strings.Repeat("\xff", 32), strings.Repeat("\x55", 32), some(32, 1)}
	for i, u := range points {
		check(t, scalars[i%len(scalars)], u)
	}
	for i, k := range points {
		check(t, k, some(32, i))
		checkPublic(t, k)
	}
	for i := range 256 {
		check(t, flipped(digit(0), i), digit(9))
		check(t, flipped(strings.Repeat("\xff", 32), i), some(32, i))
	}
}

// P10.1: k is clamped: its lowest three bits and its highest two don't count, each other one does.
func TestClamp(t *testing.T) {
	for seed := range 2 {
		k, u := some(32, seed), some(32, seed+7)
		want, shown := shared(t, k, u), public(t, k)
		for i := range 256 {
			other := flipped(k, i)
			same := i < 3 || i > 253
			if got := shared(t, other, u); (got == want) != same {
				t.Errorf("%x, bit %d of the scalar: %x, %x", k, i, got, want)
			}
			if got := public(t, other); (got == shown) != same {
				t.Errorf("%x, bit %d of the scalar, shown: %x, %x", k, i, got, shown)
			}
		}
	}
}

// P10.1: u's highest bit does not count, each other one does.
func TestHighestBit(t *testing.T) {
	k, u := some(32, 3), some(32, 4)
	want := shared(t, k, u)
	for i := range 256 {
		if got := shared(t, k, flipped(u, i)); (got == want) != (i == 255) {
			t.Errorf("bit %d of the point: %x, %x", i, got, want)
		}
	}
}

// P10.1: u is taken modulo 2^255 - 19, with its highest bit or without it.
func TestGreatPoints(t *testing.T) {
	k := some(32, 5)
	for n := int64(2); n < 19; n++ {
		want, great := shared(t, k, digit(n)), offset(n)
		for _, u := range []string{great, flipped(great, 255), flipped(digit(n), 255)} {
			if got := shared(t, k, u); got != want {
				t.Errorf("%x: %x, want %x", u, got, want)
			}
			check(t, k, u)
		}
	}
	// What is below the modulus is not taken less.
	for n := int64(-20); n < -1; n++ {
		check(t, k, offset(n))
	}
}

// P10.1: 32 bytes 0 are no text to share: it is so with the points of a small order, and with no others.
func TestZero(t *testing.T) {
	scalars := []string{digit(0), digit(9), strings.Repeat("\xff", 32), some(32, 1), some(32, 2)}
	for _, k := range scalars {
		for _, u := range orders(t) {
			zero(t, k, u)
			zero(t, k, flipped(u, 255))
		}
		for _, u := range []string{digit(2), digit(3), offset(-2), offset(2), strings.Repeat("\xff", 32)} {
			shared(t, k, u)
		}
		shared(t, k, flipped(orders(t)[2], 0))
		public(t, k)
	}
}

// P10.1: texts that have not 32 bytes, also where 0 would be shared.
func TestWrongSizes(t *testing.T) {
	sizes := []int{32 + 1<<8, 1 << 16, 32 + 1<<16, 1 << 20}
	for n := range 100 {
		if n != 32 {
			sizes = append(sizes, n)
		}
	}
	for _, n := range sizes {
		for _, s := range []string{strings.Repeat("\x00", n), strings.Repeat("\xff", n), some(n, n)} {
			for _, right := range []string{digit(0), digit(9)} {
				refused(t, s, right)
				refused(t, right, s)
			}
			refused(t, s, s)
			if got, e := Public(s); got != "" || e != api.ErrXcurveForm {
				t.Errorf("%d bytes, shown: %x, %d", n, got, e)
			}
		}
	}
	refused(t, some(31, 1), some(33, 1))
	refused(t, some(33, 1), some(31, 1))
	refused(t, "", some(64, 1))
}

// R4: no answer shares its memory with an argument, nor with another answer.
func TestAnswersShareNoMemory(t *testing.T) {
	k, u := some(32, 1), some(32, 2)
	texts := []string{k, u, shared(t, k, u), shared(t, k, u), public(t, k), public(t, k)}
	seen := map[*byte]int{}
	for i, x := range texts {
		seen[unsafe.StringData(x)] = i
	}
	if len(seen) != len(texts) {
		t.Errorf("%d texts lie in %d places", len(texts), len(seen))
	}
}

// R5: calls may be made from several goroutines at one time, and answer the same whatever was asked ahead.
func TestCallsBesideEachOther(t *testing.T) {
	small := orders(t)
	var group sync.WaitGroup
	for worker := range 8 {
		group.Add(1)
		go func() {
			defer group.Done()
			for n := range 10 {
				k, u := some(32, worker), some(32, n)
				check(t, k, u)
				checkPublic(t, u)
				zero(t, k, small[n%len(small)])
				refused(t, k, u[1:])
			}
		}()
	}
	group.Wait()
}

func BenchmarkShared(b *testing.B) {
	k, u := some(32, 1), some(32, 2)
	for b.Loop() {
		Shared(k, u)
	}
}
