package chacha

import (
	"encoding/binary"
	"encoding/hex"
	"math"
	"strings"
	"sync"
	"testing"
	"unsafe"

	"halberd/api"
)

// last is the greatest counter.
const last = 1<<32 - 1

// some gives n bytes, of which no two near each other are alike, so that a byte that goes astray is seen.
func some(n int, seed int) string {
	b := make([]byte, n)
	x := uint32(seed)
	for i := range b {
		x = x*1664525 + 1013904223
		b[i] = byte(x >> 24)
	}
	return string(b)
}

// un reads hexadecimal digits.
func un(t *testing.T, s string) string {
	t.Helper()
	b, err := hex.DecodeString(s)
	if err != nil {
		t.Fatal(err)
	}
	return string(b)
}

// turned gives s with its i-th bit turned over.
func turned(s string, i int) string {
	b := []byte(s)
	b[i/8] ^= 0x80 >> (i % 8)
	return string(b)
}

// step is one of the four of a quarter's round: x += y, then z is z exclusive-or x, turned by n bits.
func step(w []uint32, x, y, z, n int) {
	w[x] += w[y]
	w[z] ^= w[x]
	w[z] = w[z]<<n | w[z]>>(32-n)
}

// rule is the block as the standard tells it: the state by its bytes, the rounds by their rows and columns.
func rule(key string, counter uint32, nonce string) string {
	b := []byte("expand 32-byte k" + key)
	b = binary.LittleEndian.AppendUint32(b, counter)
	b = append(b, nonce...)
	start := make([]uint32, 16)
	for i := range start {
		start[i] = binary.LittleEndian.Uint32(b[4*i:])
	}
	w := append([]uint32(nil), start...)
	for round := range 20 {
		// Every other round goes along the diagonals: a row further down is a column further to the right.
		lean := round % 2
		for i := range 4 {
			x, y, z, v := i, 4+(i+lean)%4, 8+(i+2*lean)%4, 12+(i+3*lean)%4
			step(w, x, y, v, 16)
			step(w, z, v, y, 12)
			step(w, x, y, v, 8)
			step(w, z, v, y, 7)
		}
	}
	b = b[:0]
	for i := range w {
		b = binary.LittleEndian.AppendUint32(b, w[i]+start[i])
	}
	return string(b)
}

// ruleXor is s exclusive-or the rule's blocks.
func ruleXor(key string, counter int, nonce string, s string) string {
	b := []byte(s)
	for at := 0; at < len(b); at += 64 {
		mask := rule(key, uint32(uint64(counter+at/64)%(1<<32)), nonce)
		for i := at; i < min(at+64, len(b)); i++ {
			b[i] ^= mask[i-at]
		}
	}
	return string(b)
}

// check holds a block against the rule's.
func check(t *testing.T, key string, counter int, nonce string) {
	t.Helper()
	want := rule(key, uint32(counter), nonce)
	if got, e := Block(key, counter, nonce); got != want || e != api.OK {
		t.Errorf("Block(%x, %d, %x): %x, %d, not %x", key, counter, nonce, got, e, want)
	}
}

// checkXor holds a masked text against the rule's, and takes the stream away again.
func checkXor(t *testing.T, key string, counter int, nonce string, s string) {
	t.Helper()
	want := ruleXor(key, counter, nonce, s)
	if got, e := Xor(key, counter, nonce, s); got != want || e != api.OK {
		t.Errorf("Xor(%x, %d, %x) of %d bytes: %d bytes, %d", key, counter, nonce, len(s), len(got), e)
	}
	if back, e := Xor(key, counter, nonce, want); back != s || e != api.OK {
		t.Errorf("Xor(%x, %d, %x), back, of %d bytes: %d bytes, %d", key, counter, nonce, len(s), len(back), e)
	}
}

// P6.1: the block of RFC 8439's section 2.3.2, then those of its appendix A.1.
func TestPublishedBlocks(t *testing.T) {
	key, nonce := strings.Repeat("00", 32), strings.Repeat("00", 12)
	for _, c := range []struct {
		key     string
		counter int
		nonce   string
		want    string
	}{
		{"000102030405060708090a0b0c0d0e0f101112131415161718191a1b1c1d1e1f", 1, "000000090000004a00000000",
			"10f1e7e4d13b5915500fdd1fa32071c4c7d1f4c733c068030422aa9ac3d46c4e" +
				"d2826446079faa0914c2d705d98b02a2b5129cd1de164eb9cbd083e8a2503c4e"},
		{key, 0, nonce,
			"76b8e0ada0f13d90405d6ae55386bd28bdd219b8a08ded1aa836efcc8b770dc7" +
				"da41597c5157488d7724e03fb8d84a376a43b8f41518a11cc387b669b2ee6586"},
		{key, 1, nonce,
			"9f07e7be5551387a98ba977c732d080dcb0f29a048e3656912c6533e32ee7aed" +
				"29b721769ce64e43d57133b074d839d531ed1f28510afb45ace10a1f4b794d6f"},
		{key[:62] + "01", 1, nonce,
			"3aeb5224ecf849929b9d828db1ced4dd832025e8018b8160b82284f3c949aa5a" +
				"8eca00bbb4a73bdad192b5c42f73f2fd4e273644c8b36125a64addeb006c13a0"},
		{"00ff" + key[4:], 2, nonce,
			"72d54dfbf12ec44b362692df94137f328fea8da73990265ec1bbbea1ae9af0ca" +
				"13b25aa26cb4a648cb9b9d1be65b2c0924a66c54d545ec1b7374f4872e99f096"},
		{key, 0, nonce[:22] + "02",
			"c2c64d378cd536374ae204b9ef933fcd1a8b2288b3dfa49672ab765b54ee27c7" +
				"8a970e0e955c14f3a88e741b97c286f75f8fc299e8148362fa198a39531bed6d"},
	} {
		if got, e := Block(un(t, c.key), c.counter, un(t, c.nonce)); got != un(t, c.want) || e != api.OK {
			t.Errorf("Block(%s, %d, %s): %x, %d, not %s", c.key, c.counter, c.nonce, got, e, c.want)
		}
	}
}

// P6.1: a quarter of a round, and one within a state, of RFC 8439's sections 2.1.1 and 2.2.1.
func TestPublishedQuarters(t *testing.T) {
	for _, c := range [][2][4]uint32{
		{{0x11111111, 0x01020304, 0x9b8d6f43, 0x01234567}, {0xea2a92f4, 0xcb1cf8ce, 0x4581472e, 0x5881c4bb}},
		{{0x516461b1, 0x2a5f714c, 0x53372767, 0x3d631689}, {0xbdb886dc, 0xcfacafd2, 0xe46bea80, 0xccc07c79}},
	} {
		var got [4]uint32
		got[0], got[1], got[2], got[3] = quarter(c[0][0], c[0][1], c[0][2], c[0][3])
		if got != c[1] {
			t.Errorf("quarter(%08x): %08x, not %08x", c[0], got, c[1])
		}
	}
}

// P6.1: keys, counters and nonces of which every bit is set by itself, and of which every bit but one is.
func TestBlocksOfEachBit(t *testing.T) {
	for _, fill := range []string{"\x00", "\xff"} {
		key, nonce := strings.Repeat(fill, 32), strings.Repeat(fill, 12)
		for _, counter := range []int{0, last} {
			check(t, key, counter, nonce)
			for i := range 8 * 32 {
				check(t, turned(key, i), counter, nonce)
			}
			for i := range 8 * 12 {
				check(t, key, counter, turned(nonce, i))
			}
			for i := range 32 {
				check(t, key, counter^1<<i, nonce)
			}
		}
	}
}

// P6.1: every byte at every place of the key and of the nonce.
func TestBlocksOfEachByte(t *testing.T) {
	for x := range 256 {
		key, nonce := some(32, x), some(12, x+1)
		for i := range key {
			check(t, key[:i]+string([]byte{byte(x)})+key[i+1:], x, nonce)
		}
		for i := range nonce {
			check(t, key, last-x, nonce[:i]+string([]byte{byte(x)})+nonce[i+1:])
		}
	}
}

// P6.1: rows in which each block makes the next one's key, counter and nonce.
func TestRowsOfBlocks(t *testing.T) {
	key, counter, nonce := some(32, 1), 0, some(12, 2)
	for range 5000 {
		check(t, key, counter, nonce)
		b := rule(key, uint32(counter), nonce)
		key, nonce = b[:32], b[32:44]
		counter = int(binary.LittleEndian.Uint32([]byte(b[44:])))
	}
}

// P6.2: the texts of RFC 8439's section 2.4.2 and of its appendix A.2.
func TestPublishedTexts(t *testing.T) {
	zeros := strings.Repeat("00", 64)
	for _, c := range []struct {
		key     string
		counter int
		nonce   string
		s       string
		want    string
	}{
		{"000102030405060708090a0b0c0d0e0f101112131415161718191a1b1c1d1e1f", 1, "000000000000004a00000000",
			"Ladies and Gentlemen of the class of '99: If I could offer you only one tip for the future, sunscreen would be it.",
			"6e2e359a2568f98041ba0728dd0d6981e97e7aec1d4360c20a27afccfd9fae0b" +
				"f91b65c5524733ab8f593dabcd62b3571639d624e65152ab8f530c359f0861d8" +
				"07ca0dbf500d6a6156a38e088a22b65e52bc514d16ccf806818ce91ab7793736" +
				"5af90bbf74a35be6b40b8eedf2785e42874d"},
		{zeros[:64], 0, zeros[:24], un(t, zeros),
			"76b8e0ada0f13d90405d6ae55386bd28bdd219b8a08ded1aa836efcc8b770dc7" +
				"da41597c5157488d7724e03fb8d84a376a43b8f41518a11cc387b669b2ee6586"},
		{zeros[:62] + "01", 1, zeros[:22] + "02",
			"Any submission to the IETF intended by the Contributor for publication as all or part of an IETF Internet-Draft or RFC " +
				"and any statement made within the context of an IETF activity is considered an \"IETF Contribution\". Such statements " +
				"include oral statements in IETF sessions, as well as written and electronic communications made at any time or place, " +
				"which are addressed to",
			"a3fbf07df3fa2fde4f376ca23e82737041605d9f4f4f57bd8cff2c1d4b7955ec" +
				"2a97948bd3722915c8f3d337f7d370050e9e96d647b7c39f56e031ca5eb6250d" +
				"4042e02785ececfa4b4bb5e8ead0440e20b6e8db09d881a7c6132f420e527950" +
				"42bdfa7773d8a9051447b3291ce1411c680465552aa6c405b7764d5e87bea85a" +
				"d00f8449ed8f72d0d662ab052691ca66424bc86d2df80ea41f43abf937d3259d" +
				"c4b2d0dfb48a6c9139ddd7f76966e928e635553ba76c5c879d7b35d49eb2e62b" +
				"0871cdac638939e25e8a1e0ef9d5280fa8ca328b351c3c765989cbcf3daa8b6c" +
				"cc3aaf9f3979c92b3720fc88dc95ed84a1be059c6499b9fda236e7e818b04b0b" +
				"c39c1e876b193bfe5569753f88128cc08aaa9b63d1a16f80ef2554d7189c411f" +
				"5869ca52c5b83fa36ff216b9c1d30062bebcfd2dc5bce0911934fda79a86f6e6" +
				"98ced759c3ff9b6477338f3da4f9cd8514ea9982ccafb341b2384dd902f3d1ab" +
				"7ac61dd29c6f21ba5b862f3730e37cfdc4fd806c22f221"},
		{"1c9240a5eb55d38af333888604f6b5f0473917c1402b80099dca5cbc207075c0", 42, zeros[:22] + "02",
			"'Twas brillig, and the slithy toves\nDid gyre and gimble in the wabe:\nAll mimsy were the borogoves,\n" +
				"And the mome raths outgrabe.",
			"62e6347f95ed87a45ffae7426f27a1df5fb69110044c0d73118effa95b01e5cf" +
				"166d3df2d721caf9b21e5fb14c616871fd84c54f9d65b283196c7fe4f60553eb" +
				"f39c6402c42234e32a356b3e764312a61a5532055716ead6962568f87d3f3f77" +
				"04c6a8d1bcd1bf4d50d6154b6da731b187b58dfd728afa36757a797ac188d1"},
	} {
		if got, e := Xor(un(t, c.key), c.counter, un(t, c.nonce), c.s); got != un(t, c.want) || e != api.OK {
			t.Errorf("Xor of %q: %x, %d, not %s", c.s, got, e, c.want)
		}
	}
}

// P6.2: texts of every length about the blocks' edges, at counters about their own.
func TestTextsOfEachLength(t *testing.T) {
	for n := range 260 {
		for _, counter := range []int{0, 1, 254, 255, 1<<16 - 2, 1<<24 - 1, 1<<31 - 2, 1 << 31, last - 3, last - 2, last - 1, last} {
			checkXor(t, some(32, n), counter, some(12, n+1), some(n, n+2))
		}
	}
}

// P6.2: behind the last counter comes 0, and the nonce beside it is the same still.
func TestCounterWrapsRound(t *testing.T) {
	key, zeros := some(32, 1), strings.Repeat("\x00", 3*64)
	for _, nonce := range []string{some(12, 2), strings.Repeat("\xff", 12), strings.Repeat("\x00", 12)} {
		b, _ := Block(key, last, nonce)
		c, _ := Block(key, 0, nonce)
		d, _ := Block(key, 1, nonce)
		if got, e := Xor(key, last, nonce, zeros); got != b+c+d || e != api.OK {
			t.Errorf("nonce %x: %x, %d, not %x", nonce, got, e, b+c+d)
		}
	}
}

// P6.2: long texts, those of MaxText bytes among them, and at every counter.
func TestLongTexts(t *testing.T) {
	key, nonce, long := some(32, 1), some(12, 2), some(api.MaxText, 3)
	for _, n := range []int{64 * 255, 64 * 256, 64*256 + 1, 16384, 16385, api.MaxText - 64, api.MaxText - 1, api.MaxText} {
		for _, counter := range []int{0, 1, 1<<16 - 500, last - 1000, last} {
			checkXor(t, key, counter, nonce, long[:n])
		}
	}
}

// P6.2: nothing stays nothing, and is no error.
func TestNothing(t *testing.T) {
	for _, counter := range []int{0, 7, last} {
		if got, e := Xor(some(32, 1), counter, some(12, 2), ""); got != "" || e != api.OK {
			t.Errorf("counter %d: %x, %d", counter, got, e)
		}
	}
}

// P6.1, P6.2, R2: sizes and counters about the limits, each by itself and together, with the result beside the error.
func TestWrongForms(t *testing.T) {
	long := some(1<<20, 1)
	try := func(k, counter, n, s int) {
		block, xor := api.ErrChachaForm, api.ErrChachaForm
		if k == 32 && counter >= 0 && counter < 1<<32 && n == 12 {
			block = api.OK
			if s <= 65536 {
				xor = api.OK
			}
		}
		got, e := Block(long[:k], counter, long[:n])
		if e != block || e == api.OK && len(got) != 64 || e != api.OK && got != "" {
			t.Errorf("Block, sizes %d, %d, counter %d: %d bytes, %d", k, n, counter, len(got), e)
		}
		got, e = Xor(long[:k], counter, long[:n], long[:s])
		if e != xor || e == api.OK && len(got) != s || e != api.OK && got != "" {
			t.Errorf("Xor, sizes %d, %d, %d, counter %d: %d bytes, %d", k, n, s, counter, len(got), e)
		}
	}
	for n := range 70 {
		try(n, 1, 12, 20)
		try(32, 1, n, 20)
	}
	counters := []int{math.MinInt, math.MinInt + 1, -1 << 33, -1 << 32, -last, -1 << 31, -2, -1, 0, 1, 1<<31 - 1, 1 << 31,
		last - 1, last, last + 1, last + 2, 1<<33 - 1, 1 << 40, 1<<62 + 1, math.MaxInt - 1, math.MaxInt}
	for _, counter := range counters {
		for _, k := range []int{0, 16, 31, 32, 33, 32 + 1<<8, 32 + 1<<16, 1 << 20} {
			for _, n := range []int{0, 8, 11, 12, 13, 24, 12 + 1<<8, 12 + 1<<16, 1 << 20} {
				try(k, counter, n, 1)
			}
		}
		for _, s := range []int{0, 64, 65535, 65536, 65537, 65536 + 64, 1 << 17, 1 << 20} {
			try(32, counter, 12, s)
			try(31, counter, 12, s)
			try(32, counter, 13, s)
		}
	}
}

// R4: no answer shares its memory with an argument, nor with another answer.
func TestAnswersShareNoMemory(t *testing.T) {
	key, nonce, s := some(32, 1), some(12, 2), some(64, 3)
	texts := []string{key, nonce, s}
	for range 2 {
		b, _ := Block(key, 1, nonce)
		x, _ := Xor(key, 1, nonce, s)
		texts = append(texts, b, x)
	}
	seen := map[*byte]int{}
	for i, x := range texts {
		if x == "" {
			t.Fatalf("text %d is empty", i)
		}
		seen[unsafe.StringData(x)] = i
	}
	if len(seen) != len(texts) {
		t.Errorf("%d texts lie in %d places", len(texts), len(seen))
	}
}

// R5: calls may be made from several goroutines at one time, and answer the same whatever was asked ahead.
func TestCallsBesideEachOther(t *testing.T) {
	var group sync.WaitGroup
	for worker := range 8 {
		group.Add(1)
		go func() {
			defer group.Done()
			for n := range 100 {
				key, nonce := some(32, worker), some(12, n)
				check(t, key, n, nonce)
				checkXor(t, key, last-n, nonce, some(50*n, worker))
				if got, e := Xor(key, -1, nonce, some(n, worker)); got != "" || e != api.ErrChachaForm {
					t.Errorf("worker %d, a wrong counter: %x, %d", worker, got, e)
				}
			}
		}()
	}
	group.Wait()
}

func BenchmarkBlock(b *testing.B) {
	key, nonce := some(32, 1), some(12, 2)
	for b.Loop() {
		Block(key, 1, nonce)
	}
}

func BenchmarkXor(b *testing.B) {
	key, nonce, s := some(32, 1), some(12, 2), some(api.MaxText, 3)
	for b.Loop() {
		Xor(key, 1, nonce, s)
	}
}
