package num

import (
	"math"
	"math/big"
	"strings"
	"sync"
	"testing"
	"unsafe"

	"halberd/api"
)

// some gives n bytes, of which no two near each other are alike, so that a byte that goes astray is seen.
func some(n int, seed int) string {
	b := make([]byte, n)
	x := uint32(seed)
	for i := range b {
		x = x*1664525 + 1013904223
		b[i] = byte(x >> 24)
	}
	return string(b)
}

// power gives 2^n.
func power(n int) *big.Int {
	return new(big.Int).Lsh(big.NewInt(1), uint(n))
}

// total sums terms; a negative one stands for what it takes away.
func total(terms ...*big.Int) *big.Int {
	sum := new(big.Int)
	for _, x := range terms {
		sum.Add(sum, x)
	}
	return sum
}

// less gives the number that takes x away.
func less(x *big.Int) *big.Int {
	return new(big.Int).Neg(x)
}

// text writes a number as 32 bytes.
func text(x *big.Int) string {
	return string(x.FillBytes(make([]byte, 32)))
}

// modulus gives the prime that the chapter names.
func modulus(t *testing.T, which int) *big.Int {
	t.Helper()
	switch which {
	case api.ModP:
		return total(power(256), less(power(224)), power(192), power(96), big.NewInt(-1))
	case api.ModN:
		n, ok := new(big.Int).SetString("FFFFFFFF00000000FFFFFFFFFFFFFFFFBCE6FAADA7179E84F3B9CAC2FC632551", 16)
		if !ok {
			t.Fatal("no number")
		}
		return n
	case api.ModX:
		return total(power(255), big.NewInt(-19))
	}
	t.Fatalf("no modulus %d", which)
	return nil
}

// moduli give the numbers of all moduli.
func moduli() []int {
	return []int{api.ModP, api.ModN, api.ModX}
}

// edges gives numbers below m at which a carry, a borrow or a reduction may go wrong.
func edges(m *big.Int) []*big.Int {
	var all []*big.Int
	about := func(x *big.Int) {
		for d := int64(-2); d <= 2; d++ {
			y := total(x, big.NewInt(d))
			if y.Sign() >= 0 && y.Cmp(m) < 0 {
				all = append(all, y)
			}
		}
	}
	about(new(big.Int))
	about(m)
	about(new(big.Int).Rsh(m, 1))
	about(total(power(256), less(m)))
	about(new(big.Int).Sqrt(m))
	for n := 16; n <= 256; n += 16 {
		about(power(n))
		about(total(m, less(power(n))))
	}
	for i := range 8 {
		about(new(big.Int).Lsh(big.NewInt(math.MaxUint32), uint(32*i)))
		about(total(power(256), less(power(32*i))))
		about(total(power(255), less(power(32*i))))
	}
	return all
}

// check holds what the calls with two numbers answer against the rule's.
func check(t *testing.T, which int, m, x, y *big.Int) {
	t.Helper()
	mod := func(z *big.Int) string { return text(z.Mod(z, m)) }
	a, b := text(x), text(y)
	if got, e := Add(which, a, b); got != mod(new(big.Int).Add(x, y)) || e != api.OK {
		t.Errorf("Add, modulus %d: %x, %x: %x, %d", which, x, y, got, e)
	}
	if got, e := Sub(which, a, b); got != mod(new(big.Int).Sub(x, y)) || e != api.OK {
		t.Errorf("Sub, modulus %d: %x, %x: %x, %d", which, x, y, got, e)
	}
	if got, e := Mul(which, a, b); got != mod(new(big.Int).Mul(x, y)) || e != api.OK {
		t.Errorf("Mul, modulus %d: %x, %x: %x, %d", which, x, y, got, e)
	}
}

// checkInv holds an inverse against the rule's, and against its own product.
func checkInv(t *testing.T, which int, m, x *big.Int) {
	t.Helper()
	a := text(x)
	inverse, e := Inv(which, a)
	if inverse != text(new(big.Int).ModInverse(x, m)) || e != api.OK {
		t.Errorf("Inv, modulus %d: %x: %x, %d", which, x, inverse, e)
	}
	if got, e := Mul(which, a, inverse); got != text(big.NewInt(1)) || e != api.OK {
		t.Errorf("Inv, modulus %d: %x: its product is %x, %d", which, x, got, e)
	}
}

// refused checks that no call with two numbers takes these, and that nothing stands beside the error.
func refused(t *testing.T, what string, which int, a, b string) {
	t.Helper()
	sum, e := Add(which, a, b)
	rest, f := Sub(which, a, b)
	product, g := Mul(which, a, b)
	if sum+rest+product != "" || e != api.ErrNumForm || f != e || g != e {
		t.Errorf("%s, modulus %d: %x, %x: %d, %d, %d", what, which, a, b, e, f, g)
	}
}

// refusedInv checks that a number has no inverse, and that nothing stands beside the error.
func refusedInv(t *testing.T, what string, which int, a string) {
	t.Helper()
	if got, e := Inv(which, a); got != "" || e != api.ErrNumForm {
		t.Errorf("Inv, %s, modulus %d: %x: %x, %d", what, which, a, got, e)
	}
}

// P9.1: results that anyone can tell without the rule.
func TestKnownResults(t *testing.T) {
	digit := func(n int64) string { return text(big.NewInt(n)) }
	for _, which := range moduli() {
		last := text(total(modulus(t, which), big.NewInt(-1)))
		half := text(new(big.Int).Rsh(total(modulus(t, which), big.NewInt(1)), 1))
		for _, c := range []struct {
			what string
			call func(int, string, string) (string, api.Errno)
			a, b string
			want string
		}{
			{"Add", Add, digit(2), digit(3), digit(5)},
			{"Add", Add, last, digit(1), digit(0)},
			{"Add", Add, last, digit(3), digit(2)},
			{"Add", Add, half, half, digit(1)},
			{"Sub", Sub, digit(3), digit(2), digit(1)},
			{"Sub", Sub, digit(0), digit(1), last},
			{"Sub", Sub, digit(7), digit(7), digit(0)},
			{"Sub", Sub, last, last, digit(0)},
			{"Mul", Mul, digit(2), digit(3), digit(6)},
			{"Mul", Mul, last, last, digit(1)},
			{"Mul", Mul, last, digit(0), digit(0)},
			{"Mul", Mul, half, digit(2), digit(1)},
		} {
			if got, e := c.call(which, c.a, c.b); got != c.want || e != api.OK {
				t.Errorf("%s, modulus %d: %x, %x: %x, %d", c.what, which, c.a, c.b, got, e)
			}
		}
		for _, c := range [][2]string{{digit(1), digit(1)}, {last, last}, {digit(2), half}, {half, digit(2)}} {
			if got, e := Inv(which, c[0]); got != c[1] || e != api.OK {
				t.Errorf("Inv, modulus %d: %x: %x, %d", which, c[0], got, e)
			}
		}
	}
}

// P9.1: each edge with each other one.
func TestEdges(t *testing.T) {
	for _, which := range moduli() {
		m := modulus(t, which)
		all := edges(m)
		for _, x := range all {
			for _, y := range all {
				check(t, which, m, x, y)
			}
			if x.Sign() != 0 {
				checkInv(t, which, m, x)
			}
		}
	}
}

// P9.1: numbers of all lengths.
func TestManyNumbers(t *testing.T) {
	for _, which := range moduli() {
		m := modulus(t, which)
		for seed := range 5000 {
			x := new(big.Int).SetBytes([]byte(some(seed%33, seed)))
			y := new(big.Int).SetBytes([]byte(some(32-seed/33%33, 3*seed+1)))
			x.Mod(x, m)
			y.Mod(y, m)
			check(t, which, m, x, y)
			if seed%10 == 0 && x.Sign() != 0 {
				checkInv(t, which, m, x)
			}
		}
	}
}

// P9.1: products just below and at a number of times 2^256, and of the modulus: there a reduction carries, or takes the
// modulus away once more.
func TestProductsAtCarries(t *testing.T) {
	for _, which := range moduli() {
		m := modulus(t, which)
		for seed := range 4000 {
			x := new(big.Int).SetBytes([]byte(some(1+seed%32, seed)))
			x.Mod(x, m)
			if x.Sign() == 0 {
				continue
			}
			high := new(big.Int).SetBytes([]byte(some(seed%6, seed+9)))
			for _, unit := range []*big.Int{power(256), m} {
				// The product is at most x below as many units as high tells, and one more.
				y := new(big.Int).Mul(total(high, big.NewInt(1)), unit)
				y.Quo(y.Sub(y, big.NewInt(1)), x)
				if y.Cmp(m) < 0 {
					check(t, which, m, x, y)
				}
			}
		}
	}
	// Of 2^255 - 19 twice itself is below 2^256; three divides 2^256 - 1.
	third := new(big.Int).Quo(power(256), big.NewInt(3))
	check(t, api.ModX, modulus(t, api.ModX), big.NewInt(3), third)
	// A limb times 38 goes over 2^256 once the rest of the product is near enough to it.
	for shift := range 5 {
		for off := int64(1); off <= 6; off++ {
			x := total(power(32+shift), big.NewInt(off))
			y := new(big.Int).Quo(new(big.Int).Sub(power(256+31), big.NewInt(1)), x)
			check(t, api.ModX, modulus(t, api.ModX), x, y)
		}
	}
}

// P9.1: 0 has no inverse, each other small number has one.
func TestInverses(t *testing.T) {
	for _, which := range moduli() {
		m := modulus(t, which)
		refusedInv(t, "of 0", which, text(new(big.Int)))
		for n := int64(1); n < 300; n++ {
			checkInv(t, which, m, big.NewInt(n))
			checkInv(t, which, m, total(m, big.NewInt(-n)))
		}
	}
}

// P9.1: texts that are no numbers: not below the modulus.
func TestGreatNumbers(t *testing.T) {
	for _, which := range moduli() {
		m := modulus(t, which)
		right := text(big.NewInt(1))
		bad := []string{strings.Repeat("\xff", 32), text(total(power(256), big.NewInt(-2)))}
		for d := range int64(40) {
			bad = append(bad, text(total(m, big.NewInt(d))))
		}
		for i := range 256 {
			x := new(big.Int).SetBit(m, i, 1)
			if x.Cmp(m) > 0 {
				bad = append(bad, text(x))
			}
		}
		for _, s := range bad {
			refused(t, "the first", which, s, right)
			refused(t, "the second", which, right, s)
			refused(t, "both", which, s, s)
			refusedInv(t, "no number", which, s)
		}
	}
}

// P9.1: the same text may be a number of one modulus and none of another.
func TestNumbersOfOneModulus(t *testing.T) {
	p, n, x := modulus(t, api.ModP), modulus(t, api.ModN), modulus(t, api.ModX)
	check(t, api.ModP, p, n, x)
	check(t, api.ModN, n, x, x)
	checkInv(t, api.ModP, p, n)
	checkInv(t, api.ModP, p, x)
	checkInv(t, api.ModN, n, x)
	refused(t, "a greater modulus", api.ModN, text(p), text(x))
	refused(t, "a greater modulus", api.ModX, text(n), text(n))
	refusedInv(t, "a greater modulus", api.ModN, text(p))
	refusedInv(t, "a greater modulus", api.ModX, text(p))
}

// P9.1: texts that are no numbers: not of 32 bytes, whatever their bytes.
func TestWrongSizes(t *testing.T) {
	sizes := []int{32 + 1<<8, 1 << 16, 32 + 1<<16, 1 << 20}
	for n := range 100 {
		if n != 32 {
			sizes = append(sizes, n)
		}
	}
	for _, which := range moduli() {
		right := text(big.NewInt(1))
		for _, n := range sizes {
			for _, s := range []string{strings.Repeat("\x00", n), strings.Repeat("\x01", n), some(n, n)} {
				refused(t, "the first's size", which, s, right)
				refused(t, "the second's size", which, right, s)
				refused(t, "both sizes", which, s, s)
				refusedInv(t, "its size", which, s)
			}
		}
		refused(t, "32 bytes in sum", which, some(31, 1), some(33, 1))
		refused(t, "32 bytes in sum", which, some(16, 1), some(16, 1))
	}
}

// P9.1: there are three moduli and no more.
func TestWrongModuli(t *testing.T) {
	bad := []int{-1, 3, 4, -2, -3, 1 << 8, 1 << 16, 1 << 32, 1<<32 + 1, 2 - 1<<32, math.MinInt, math.MaxInt}
	for _, which := range bad {
		refused(t, "no modulus", which, text(big.NewInt(2)), text(big.NewInt(1)))
		refused(t, "no modulus, no numbers", which, "", "")
		refusedInv(t, "no modulus", which, text(big.NewInt(1)))
		refusedInv(t, "no modulus, no number", which, "")
	}
}

// P9.1: sums, differences, products and inverses agree with each other.
func TestLaws(t *testing.T) {
	for _, which := range moduli() {
		m := modulus(t, which)
		number := func(seed int) string {
			x := new(big.Int).SetBytes([]byte(some(32, seed)))
			return text(x.Mod(x, m))
		}
		must := func(s string, e api.Errno) string {
			t.Helper()
			if e != api.OK || len(s) != 32 {
				t.Fatalf("modulus %d: %x, %d", which, s, e)
			}
			return s
		}
		for seed := range 300 {
			a, b, c := number(seed), number(seed+1000), number(seed+2000)
			if must(Add(which, must(Sub(which, a, b)), b)) != a {
				t.Errorf("modulus %d: a - b + b: %x, %x", which, a, b)
			}
			if must(Mul(which, must(Mul(which, a, b)), must(Inv(which, b)))) != a {
				t.Errorf("modulus %d: a b / b: %x, %x", which, a, b)
			}
			apart := must(Add(which, must(Mul(which, a, c)), must(Mul(which, b, c))))
			if must(Mul(which, must(Add(which, a, b)), c)) != apart {
				t.Errorf("modulus %d: (a + b) c: %x, %x, %x", which, a, b, c)
			}
			if must(Inv(which, must(Inv(which, a)))) != a {
				t.Errorf("modulus %d: the inverse's inverse: %x", which, a)
			}
		}
	}
}

// R4: no answer shares its memory with an argument, nor with another answer.
func TestAnswersShareNoMemory(t *testing.T) {
	for _, which := range moduli() {
		zero, one := text(new(big.Int)), text(big.NewInt(1))
		texts := []string{zero, one}
		for range 2 {
			sum, _ := Add(which, one, zero)
			rest, _ := Sub(which, one, zero)
			product, _ := Mul(which, one, one)
			inverse, _ := Inv(which, one)
			texts = append(texts, sum, rest, product, inverse)
		}
		seen := map[*byte]int{}
		for i, x := range texts {
			if x == "" {
				t.Fatalf("text %d is empty", i)
			}
			seen[unsafe.StringData(x)] = i
		}
		if len(seen) != len(texts) {
			t.Errorf("modulus %d: %d texts lie in %d places", which, len(texts), len(seen))
		}
	}
}

// R5: calls may be made from several goroutines at one time, and answer the same whatever was asked ahead.
func TestCallsBesideEachOther(t *testing.T) {
	var group sync.WaitGroup
	primes := []*big.Int{modulus(t, api.ModP), modulus(t, api.ModN), modulus(t, api.ModX)}
	for worker := range 8 {
		group.Add(1)
		go func() {
			defer group.Done()
			for n := range 200 {
				which := (worker + n) % 3
				m := primes[which]
				x := new(big.Int).SetBytes([]byte(some(31, worker)))
				y := new(big.Int).SetBytes([]byte(some(31, n)))
				check(t, which, m, x, y)
				checkInv(t, which, m, y)
				refused(t, "no number", which, text(m), text(y))
				refusedInv(t, "of 0", which, text(new(big.Int)))
			}
		}()
	}
	group.Wait()
}

func BenchmarkMul(b *testing.B) {
	a := "\x00" + some(31, 1)
	for b.Loop() {
		Mul(api.ModN, a, a)
	}
}

func BenchmarkInv(b *testing.B) {
	a := "\x00" + some(31, 1)
	for b.Loop() {
		Inv(api.ModN, a)
	}
}
