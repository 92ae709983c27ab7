package pcurve

import (
	"crypto/ecdh"
	"crypto/elliptic"
	"encoding/hex"
	"math/big"
	"strings"
	"sync"
	"testing"
	"unsafe"

	"halberd/api"
)

// some gives n bytes, of which no two near each other are alike, so that a byte that goes astray is seen.
func some(n int, seed int) string {
	b := make([]byte, n)
	x := uint32(seed)
	for i := range b {
		x = x*1664525 + 1013904223
		b[i] = byte(x >> 24)
	}
	return string(b)
}

// un reads hexadecimal digits.
func un(t testing.TB, digits string) string {
	t.Helper()
	b, err := hex.DecodeString(strings.ReplaceAll(digits, " ", ""))
	if err != nil {
		t.Fatal(err)
	}
	return string(b)
}

// text writes a number as 32 bytes, the highest first.
func text(x *big.Int) string {
	return string(x.FillBytes(make([]byte, 32)))
}

// read reads a number out of a text.
func read(s string) *big.Int {
	return new(big.Int).SetBytes([]byte(s))
}

// small writes a small number.
func small(n int64) string {
	return text(big.NewInt(n))
}

// field gives the prime below which coordinates are.
func field() *big.Int {
	return elliptic.P256().Params().P
}

// order gives the number below which scalars are.
func order() *big.Int {
	return elliptic.P256().Params().N
}

// offset writes what is n above the order.
func offset(n int64) string {
	return text(new(big.Int).Add(order(), big.NewInt(n)))
}

// scalarOf gives a scalar, another one for each seed.
func scalarOf(seed int) string {
	n := new(big.Int).Mod(read(some(32, seed)), new(big.Int).Sub(order(), big.NewInt(1)))
	return text(n.Add(n, big.NewInt(1)))
}

// with writes a point of two coordinates.
func with(x, y *big.Int) string {
	return "\x04" + text(x) + text(y)
}

// coordinates reads a point's two.
func coordinates(p string) (*big.Int, *big.Int) {
	return read(p[1:33]), read(p[33:])
}

// opposite gives the point whose sum with p is the point at infinity.
func opposite(p string) string {
	x, y := coordinates(p)
	return with(x, y.Sub(field(), y))
}

// on tells whether numbers are a point's coordinates, by the equation itself.
func on(x, y *big.Int) bool {
	b := elliptic.P256().Params().B
	left := new(big.Int).Mul(y, y)
	right := new(big.Int).Mul(x, x)
	right.Sub(right, big.NewInt(3)).Mul(right, x).Add(right, b)
	return x.Cmp(field()) < 0 && y.Cmp(field()) < 0 && left.Sub(left, right).Mod(left, field()).Sign() == 0
}

// public gives k G, with which nothing may be wrong.
func public(t testing.TB, k string) string {
	t.Helper()
	p, e := Public(k)
	if e != api.OK || !On(p) {
		t.Fatalf("%x: %x, %d", k, p, e)
	}
	return p
}

// times gives k p, with which nothing may be wrong.
func times(t testing.TB, k, p string) string {
	t.Helper()
	q, e := Mul(k, p)
	if e != api.OK || !On(q) {
		t.Fatalf("%x, %x: %x, %d", k, p, q, e)
	}
	return q
}

// sum gives p + q, with which nothing may be wrong.
func sum(t testing.TB, p, q string) string {
	t.Helper()
	s, e := Add(p, q)
	if e != api.OK || !On(s) {
		t.Fatalf("%x, %x: %x, %d", p, q, s, e)
	}
	return s
}

// checkPublic holds k G against the library's.
func checkPublic(t *testing.T, k string) {
	t.Helper()
	x, y := elliptic.P256().ScalarBaseMult([]byte(k))
	if got, e := Public(k); got != with(x, y) || e != api.OK || !On(got) {
		t.Errorf("%x: %x, %d", k, got, e)
	}
}

// checkMul holds k p against the library's.
func checkMul(t *testing.T, k, p string) {
	t.Helper()
	px, py := coordinates(p)
	x, y := elliptic.P256().ScalarMult(px, py, []byte(k))
	if got, e := Mul(k, p); got != with(x, y) || e != api.OK || !On(got) {
		t.Errorf("%x, %x: %x, %d", k, p, got, e)
	}
}

// checkAdd holds p + q, in both rows, against the library's.
func checkAdd(t *testing.T, p, q string) {
	t.Helper()
	px, py := coordinates(p)
	qx, qy := coordinates(q)
	x, y := elliptic.P256().Add(px, py, qx, qy)
	if got, e := Add(p, q); got != with(x, y) || e != api.OK {
		t.Errorf("%x, %x: %x, %d", p, q, got, e)
	}
	if got, e := Add(q, p); got != with(x, y) || e != api.OK {
		t.Errorf("%x, %x: %x, %d", q, p, got, e)
	}
}

// noScalar checks that a text is taken for no scalar, and that nothing stands beside the error.
func noScalar(t *testing.T, k string) {
	t.Helper()
	if got, e := Public(k); got != "" || e != api.ErrPcurveForm {
		t.Errorf("%x: %x, %d", k, got, e)
	}
	if got, e := Mul(k, base); got != "" || e != api.ErrPcurveForm {
		t.Errorf("%x and G: %x, %d", k, got, e)
	}
}

// noPoint checks that a text is taken for no point, and that nothing stands beside the errors.
func noPoint(t *testing.T, p string) {
	t.Helper()
	if On(p) {
		t.Errorf("%x is a point", p)
	}
	if got, e := Mul(small(1), p); got != "" || e != api.ErrPcurveForm {
		t.Errorf("1 and %x: %x, %d", p, got, e)
	}
	for _, pair := range [][2]string{{p, base}, {base, p}, {p, p}} {
		if got, e := Add(pair[0], pair[1]); got != "" || e != api.ErrPcurveForm {
			t.Errorf("%x: %x, %d", pair, got, e)
		}
	}
}

// noSum checks that a sum is at infinity, and that nothing stands beside the error.
func noSum(t *testing.T, p, q string) {
	t.Helper()
	if got, e := Add(p, q); got != "" || e != api.ErrPcurveForm {
		t.Errorf("%x, %x: %x, %d", p, q, got, e)
	}
}

// edgePoints gives points at which a coordinate is 0 or small.
func edgePoints(t testing.TB) []string {
	t.Helper()
	var points []string
	root := new(big.Int).ModSqrt(elliptic.P256().Params().B, field())
	points = append(points, with(new(big.Int), root), opposite(with(new(big.Int), root)))
	for _, c := range []struct {
		x string
		y int64
	}{
		{"d7325d7646cd60d80a92738ceb345f844cffaf35841022cab176f692de8de1d7", 5},
		{"9b21c2de1da31d68731dbdaf97d7ab3f979131e28e3dc5b2077d5a7187914a78", 6},
		{"6655861894c5d2f49bf3dbc1b3b175009530f4300e73f9d1a16c4effb44956f6", 11},
	} {
		points = append(points, "\x04"+un(t, c.x)+small(c.y))
	}
	return points
}

// P11.1: the standard's G is 1 G, and its opposite is that of the scalar just below the order.
func TestBase(t *testing.T) {
	g := "\x04" + un(t, "6B17D1F2E12C4247F8BCE6E563A440F277037D812DEB33A0F4A13945D898C296"+
		"4FE342E2FE1A7F9B8EE7EB4A7C0F9E162BCE33576B315ECECBB6406837BF51F5")
	if got := public(t, small(1)); got != g || !On(g) {
		t.Errorf("1 G: %x", got)
	}
	if got := times(t, small(1), g); got != g {
		t.Errorf("1 times G: %x", got)
	}
	if got := public(t, offset(-1)); got != opposite(g) {
		t.Errorf("-1 G: %x", got)
	}
}

// P11.1: NIST's row of a scalar and its point.
func TestStandardMultiple(t *testing.T) {
	want := "\x04" + un(t, "339150844EC15234807FE862A86BE77977DBFB3AE3D96F4C22795513AEAAB82F"+
		"B1C14DDFDC8EC1B2583F51E85A5EB3A155840F2034730E9B5ADA38B674336A21")
	if got := public(t, small(112233445566778899)); got != want {
		t.Errorf("%x", got)
	}
}

// P11.1: RFC 5903's two that share a point, 8.1.
func TestStandardPair(t *testing.T) {
	i := un(t, "C88F01F5 10D9AC3F 70A292DA A2316DE5 44E9AAB8 AFE84049 C62A9C57 862D1433")
	r := un(t, "C6EF9C5D 78AE012A 011164AC B397CE20 88685D8F 06BF9BE0 B283AB46 476BEE53")
	gi := "\x04" + un(t, "DAD0B653 94221CF9 B051E1FE CA5787D0 98DFE637 FC90B9EF 945D0C37 72581180"+
		"5271A046 1CDB8252 D61F1C45 6FA3E59A B1F45B33 ACCF5F58 389E0577 B8990BB3")
	gr := "\x04" + un(t, "D12DFB52 89C8D4F8 1208B702 70398C34 2296970A 0BCCB74C 736FC755 4494BF63"+
		"56FBF3CA 366CC23E 8157854C 13C58D6A AC23F046 ADA30F83 53E74F33 039872AB")
	gir := "\x04" + un(t, "D6840F6B 42F6EDAF D13116E0 E1256520 2FEF8E9E CE7DCE03 812464D0 4B9442DE"+
		"522BDE0A F0D8585B 8DEF9C18 3B5AE38F 50235206 A8674ECB 5D98EDB2 0EB153A2")
	if x, y := public(t, i), public(t, r); x != gi || y != gr {
		t.Errorf("shown: %x, %x", x, y)
	}
	if x, y := times(t, i, gr), times(t, r, gi); x != gir || y != gir {
		t.Errorf("shared: %x, %x", x, y)
	}
}

// P11.1: the first multiples and the last ones, in a row of sums and as products.
func TestRowOfMultiples(t *testing.T) {
	p := public(t, small(1))
	for n := int64(2); n < 70; n++ {
		p = sum(t, p, base)
		if got := public(t, small(n)); got != p {
			t.Errorf("%d G: %x, want %x", n, got, p)
		}
		if got := times(t, small(n), base); got != p {
			t.Errorf("%d times G: %x, want %x", n, got, p)
		}
		if got := public(t, offset(-n)); got != opposite(p) {
			t.Errorf("%d G: %x, want %x", -n, got, opposite(p))
		}
		noSum(t, p, public(t, offset(-n)))
	}
}

// P11.1: any scalars and points.
func TestManyMultiples(t *testing.T) {
	for seed := range 150 {
		k, l := scalarOf(seed), scalarOf(seed+1000)
		checkPublic(t, k)
		checkMul(t, k, public(t, l))
		checkAdd(t, public(t, k), public(t, l))
	}
}

// P11.1: what two share is what they share by the library.
func TestPairs(t *testing.T) {
	for seed := range 50 {
		k, l := scalarOf(seed), scalarOf(seed+2000)
		own, err := ecdh.P256().NewPrivateKey([]byte(k))
		if err != nil {
			t.Fatal(err)
		}
		other, err := ecdh.P256().NewPublicKey([]byte(public(t, l)))
		if err != nil {
			t.Fatal(err)
		}
		want, err := own.ECDH(other)
		if err != nil {
			t.Fatal(err)
		}
		p := times(t, k, public(t, l))
		if p[1:33] != string(want) || p != times(t, l, public(t, k)) {
			t.Errorf("%x, %x: %x, want %x", k, l, p, want)
		}
	}
}

// P11.1: scalars at which a bit, a limb or a byte begins or ends.
func TestEdgeScalars(t *testing.T) {
	p := public(t, scalarOf(1))
	try := func(n *big.Int) {
		if n.Sign() > 0 && n.Cmp(order()) < 0 {
			checkPublic(t, text(n))
			checkMul(t, text(n), p)
		}
	}
	for bit := uint(0); bit < 256; bit++ {
		n := new(big.Int).Lsh(big.NewInt(1), bit)
		try(n)
		if bit%8 == 0 {
			try(new(big.Int).Sub(n, big.NewInt(1)))
			try(new(big.Int).Add(n, big.NewInt(1)))
			try(new(big.Int).Sub(order(), n))
		}
	}
	half := new(big.Int).Rsh(order(), 1)
	for d := int64(-2); d <= 2; d++ {
		try(new(big.Int).Add(half, big.NewInt(d)))
	}
	for digit := range 16 {
		try(read(strings.Repeat(string([]byte{byte(digit * 17)}), 31)))
		try(read("\x0f" + strings.Repeat(string([]byte{byte(digit)}), 31)))
		try(read(strings.Repeat(string([]byte{byte(digit << 4)}), 31)))
	}
}

// P11.1: points with a coordinate that is 0 or small.
func TestEdgePoints(t *testing.T) {
	for i, p := range edgePoints(t) {
		if x, y := coordinates(p); !on(x, y) {
			t.Fatalf("%x is no point", p)
		}
		if !On(p) {
			t.Errorf("%x is not taken for a point", p)
		}
		checkMul(t, scalarOf(i), p)
		checkMul(t, small(2), p)
		checkMul(t, offset(-1), p)
		checkAdd(t, p, base)
		checkAdd(t, p, p)
		noSum(t, p, opposite(p))
	}
}

// P11.1: sums of a point with itself, with its opposite, with its double, and with the double's opposite.
func TestEdgeSums(t *testing.T) {
	for seed := range 20 {
		p := public(t, scalarOf(seed))
		double := sum(t, p, p)
		if want := times(t, small(2), p); double != want {
			t.Errorf("%x twice: %x, want %x", p, double, want)
		}
		checkAdd(t, p, p)
		checkAdd(t, p, double)
		noSum(t, p, opposite(p))
		noSum(t, opposite(p), p)
		noSum(t, double, opposite(double))
		if got := sum(t, double, opposite(p)); got != p {
			t.Errorf("%x: %x", p, got)
		}
		if got := sum(t, p, opposite(double)); got != opposite(p) {
			t.Errorf("%x: %x", p, got)
		}
		noSum(t, p, times(t, offset(-1), p))
	}
}

// P11.1: products of sums are sums of products, and sums hang on no order.
func TestLaws(t *testing.T) {
	for seed := range 20 {
		k, l := scalarOf(seed), scalarOf(seed+3000)
		p, q, r := public(t, k), public(t, l), public(t, scalarOf(seed+4000))
		if sum(t, sum(t, p, q), r) != sum(t, p, sum(t, q, r)) || sum(t, p, q) != sum(t, q, p) {
			t.Errorf("%x, %x, %x", p, q, r)
		}
		both := new(big.Int).Add(read(k), read(l))
		if times(t, text(both.Mod(both, order())), r) != sum(t, times(t, k, r), times(t, l, r)) {
			t.Errorf("%x, %x, %x", k, l, r)
		}
		if times(t, k, sum(t, q, r)) != sum(t, times(t, k, q), times(t, k, r)) {
			t.Errorf("%x, %x, %x", k, q, r)
		}
	}
}

// P11.1: a text is a point only if the equation holds: with any one bit the other way it does, or does not.
func TestBitsOfPoints(t *testing.T) {
	for seed := range 2 {
		p := public(t, scalarOf(seed))
		for i := range 8 * len(p) {
			b := []byte(p)
			b[i/8] ^= 1 << (i % 8)
			q := string(b)
			x, y := coordinates(q)
			if want := b[0] == 4 && on(x, y); On(q) != want {
				t.Errorf("%x: %t", q, !want)
			}
		}
	}
	for seed := range 300 {
		q := "\x04" + some(64, seed)
		if x, y := coordinates(q); On(q) != on(x, y) {
			t.Errorf("%x: %t", q, On(q))
		}
	}
}

// P11.1: coordinates that are right but for what is at the prime or above.
func TestGreatCoordinates(t *testing.T) {
	room := new(big.Int).Lsh(big.NewInt(1), 256)
	for _, p := range edgePoints(t) {
		x, y := coordinates(p)
		great := new(big.Int).Add(x, field())
		if great.Cmp(room) < 0 {
			noPoint(t, with(great, y))
		}
		great = new(big.Int).Add(y, field())
		if great.Cmp(room) < 0 {
			noPoint(t, with(x, great))
		}
	}
	noPoint(t, "\x04"+strings.Repeat("\xff", 64))
	noPoint(t, with(field(), field()))
}

// P11.1: the texts of points in other forms, and the point at infinity in any.
func TestOtherForms(t *testing.T) {
	g := base
	for head := range 256 {
		if head != 4 {
			noPoint(t, string([]byte{byte(head)})+g[1:])
		}
	}
	for _, p := range []string{"", "\x00", "\x04", "\x02" + g[1:33], "\x03" + g[1:33], "\x04" + g[1:33], g[1:], g + "\x00",
		"\x00" + g, g[:64], g + g, strings.Repeat("\x00", 65), "\x04" + strings.Repeat("\x00", 64),
		"\x04" + strings.Repeat("\x00", 63) + "\x01", "\x04" + g[33:] + g[1:33], strings.Repeat("\x04", 65)} {
		noPoint(t, p)
	}
	for n := range 200 {
		if n != 65 {
			noPoint(t, ("\x04" + g[1:] + some(200, n))[:n])
		}
	}
	noPoint(t, strings.Repeat("\x04", 1<<20))
}

// P11.1: points of other curves, of which sums would tell something about a scalar.
func TestOtherCurves(t *testing.T) {
	x, y := coordinates(base)
	for n := int64(1); n < 20; n++ {
		noPoint(t, with(x, new(big.Int).Add(y, big.NewInt(n))))
		noPoint(t, with(big.NewInt(n), new(big.Int)))
	}
}

// P11.1: texts that are no scalars: 0, the order and more, other sizes.
func TestNoScalars(t *testing.T) {
	for _, k := range []string{small(0), offset(0), offset(1), offset(2), strings.Repeat("\xff", 32), text(field()),
		"", "\x01", small(1)[1:], small(1) + "\x00", "\x00" + small(1), strings.Repeat("\x01", 64), strings.Repeat("\x01", 1<<20)} {
		noScalar(t, k)
	}
	for n := range 100 {
		if n != 32 {
			noScalar(t, strings.Repeat("\x01", n))
		}
	}
	for bit := uint(0); bit < 224; bit++ {
		noScalar(t, text(new(big.Int).Add(order(), new(big.Int).Lsh(big.NewInt(1), bit))))
	}
	if got, e := Mul("", ""); got != "" || e != api.ErrPcurveForm {
		t.Errorf("%x, %d", got, e)
	}
}

// R4: no answer shares its memory with an argument, nor with another answer.
func TestAnswersShareNoMemory(t *testing.T) {
	k, p := strings.Clone(small(1)), strings.Clone(base)
	texts := []string{k, p, public(t, k), public(t, k), times(t, k, p), times(t, k, p), sum(t, p, p), sum(t, p, p), base}
	seen := map[*byte]int{}
	for i, x := range texts {
		seen[unsafe.StringData(x)] = i
	}
	if len(seen) != len(texts) {
		t.Errorf("%d texts lie in %d places", len(texts), len(seen))
	}
}

// R5: calls may be made from several goroutines at one time, and answer the same whatever was asked ahead.
func TestCallsBesideEachOther(t *testing.T) {
	points := edgePoints(t)
	var group sync.WaitGroup
	for worker := range 8 {
		group.Add(1)
		go func() {
			defer group.Done()
			for n := range 5 {
				p := points[n%len(points)]
				checkPublic(t, scalarOf(worker))
				checkMul(t, scalarOf(n), p)
				checkAdd(t, p, base)
				noSum(t, p, opposite(p))
				noPoint(t, p[1:])
				noScalar(t, offset(int64(n)))
			}
		}()
	}
	group.Wait()
}

func BenchmarkMul(b *testing.B) {
	k, p := scalarOf(1), public(b, scalarOf(2))
	for b.Loop() {
		Mul(k, p)
	}
}
