package sha

import (
	"crypto/sha256"
	"crypto/sha512"
	"encoding/hex"
	"hash"
	"math"
	"strconv"
	"strings"
	"sync"
	"testing"
	"unsafe"

	"halberd/api"
)

// kind is one of the two digests, with the numbers that the standard gives it.
type kind struct {
	bits   int
	block  int
	length int // bytes of the length's field
	other  func() hash.Hash
}

func kinds() []kind {
	return []kind{{256, 64, 8, sha256.New}, {384, 128, 16, sha512.New384}}
}

// want is the digest that the library tells.
func (k kind) want(s string) string {
	h := k.other()
	h.Write([]byte(s))
	return string(h.Sum(nil))
}

// text gives n bytes, of which no two near each other are alike, so that a byte that goes astray is seen.
func text(n int) string {
	b := make([]byte, n)
	x := uint32(n)
	for i := range b {
		x = x*1664525 + 1013904223
		b[i] = byte(x >> 24)
	}
	return string(b)
}

// begun gives a Hash to which s was written.
func begun(t *testing.T, bits int, s string) *Hash {
	t.Helper()
	h, e := New(bits)
	if h == nil || e != api.OK {
		t.Fatalf("New(%d): %v, %d", bits, h, e)
	}
	h.Write(s)
	return h
}

// published are the standard's examples and others of NIST's, as hex.
func published() []struct{ s, sum256, sum384 string } {
	return []struct{ s, sum256, sum384 string }{
		{
			"",
			"e3b0c44298fc1c149afbf4c8996fb92427ae41e4649b934ca495991b7852b855",
			"38b060a751ac96384cd9327eb1b1e36a21fdb71114be07434c0cc7bf63f6e1da274edebfe76f65fbd51ad2f14898b95b",
		},
		{
			"abc",
			"ba7816bf8f01cfea414140de5dae2223b00361a396177a9cb410ff61f20015ad",
			"cb00753f45a35e8bb5a03d699ac65007272c32ab0eded1631a8b605a43ff5bed8086072ba1e7cc2358baeca134c825a7",
		},
		{
			"abcdbcdecdefdefgefghfghighijhijkijkljklmklmnlmnomnopnopq",
			"248d6a61d20638b8e5c026930c3e6039a33ce45964ff2167f6ecedd419db06c1",
			"3391fdddfc8dc7393707a65b1b4709397cf8b1d162af05abfe8f450de5f36bc6b0455a8520bc4e6f5fe95b1fe3c8452b",
		},
		{
			"abcdefghbcdefghicdefghijdefghijkefghijklfghijklmghijklmnhijklmnoijklmnopjklmnopqklmnopqrlmnopqrsmnopqrstnopqrstu",
			"cf5b16a778af8380036ce59e7b0492370b249b11e8f07a51afac45037afee9d1",
			"09330c33f71147e83d192fc782cd1b4753111b173b3b05d22fa08086e3b0f712fcc7c71a557e2db966c3e9fa91746039",
		},
		{
			strings.Repeat("a", 1000000),
			"cdc76e5c9914fb9281a1c7e284d73e67f1809a48a497200e046d39ccc7112cd0",
			"9d0e1809716474cb086e834e310a4a1ced149e9c00f248527972cec5704c2a5b07b8b3dc38ecc4ebae97ddd87f3d8985",
		},
	}
}

// P2.1, P2.2: the published digests.
func TestPublishedDigests(t *testing.T) {
	for _, p := range published() {
		for bits, want := range map[int]string{256: p.sum256, 384: p.sum384} {
			got, e := Sum(bits, p.s)
			if hex.EncodeToString([]byte(got)) != want || e != api.OK {
				t.Errorf("Sum(%d) of %d bytes: %x, %d, not %s", bits, len(p.s), got, e, want)
			}
			if got := begun(t, bits, p.s).Sum(); hex.EncodeToString([]byte(got)) != want {
				t.Errorf("a Hash of %d, %d bytes: %x, not %s", bits, len(p.s), got, want)
			}
		}
	}
}

// P2.1: a digest has 32 or 48 bytes.
func TestSumHasItsLength(t *testing.T) {
	for _, k := range kinds() {
		for _, n := range []int{0, 1, k.block, 1000} {
			if got, e := Sum(k.bits, text(n)); len(got) != k.bits/8 || e != api.OK {
				t.Errorf("Sum(%d) of %d bytes: %d bytes, %d", k.bits, n, len(got), e)
			}
		}
	}
}

// P2.1: every length about one block's and two blocks', and those between.
func TestSumOfEveryLengthAboutBlocks(t *testing.T) {
	for _, k := range kinds() {
		for n := range 3*k.block + 2 {
			s := text(n)
			if got, e := Sum(k.bits, s); got != k.want(s) || e != api.OK {
				t.Errorf("Sum(%d) of %d bytes: %x, %d", k.bits, n, got, e)
			}
		}
	}
}

// P2.1: the last length that leaves room for the padding's first byte and the length, and the first that doesn't, and a full block.
func TestSumWhereTheLengthStillFits(t *testing.T) {
	for _, k := range kinds() {
		for blocks := range 4 {
			full := k.block * (blocks + 1)
			for _, n := range []int{full - k.length - 2, full - k.length - 1, full - k.length, full - 1, full, full + 1} {
				// Bytes of all ones: one that is left behind in the padding changes the digest.
				s := strings.Repeat("\xff", n)
				if got, e := Sum(k.bits, s); got != k.want(s) || e != api.OK {
					t.Errorf("Sum(%d) of %d bytes: %x, %d", k.bits, n, got, e)
				}
			}
		}
	}
}

// P2.1: any byte may stand in a text, zeros and what isn't UTF-8 too.
func TestSumOfAnyBytes(t *testing.T) {
	for _, k := range kinds() {
		for c := range 256 {
			for _, s := range []string{string([]byte{byte(c)}), strings.Repeat(string([]byte{byte(c)}), 200)} {
				if got, _ := Sum(k.bits, s); got != k.want(s) {
					t.Errorf("Sum(%d) of %d times %d: %x", k.bits, len(s), c, got)
				}
			}
		}
		zeros := map[string]int{}
		for n := range 200 {
			got, _ := Sum(k.bits, strings.Repeat("\x00", n))
			zeros[got]++
		}
		if len(zeros) != 200 {
			t.Errorf("Sum(%d): texts of zeros of several lengths have one digest", k.bits)
		}
	}
}

// P2.1, P2.2: long texts, in whole and in parts, where the length takes more and more bytes.
func TestLongTexts(t *testing.T) {
	for _, k := range kinds() {
		for _, n := range []int{8191, 8192, 65535, 65536, 65537, 1<<21 - 1, 1 << 21, 3<<20 + 7} {
			s := text(n)
			want := k.want(s)
			if got, e := Sum(k.bits, s); got != want || e != api.OK {
				t.Errorf("Sum(%d) of %d bytes: %x, %d", k.bits, n, got, e)
			}
			h := begun(t, k.bits, "")
			for part := 1; len(s) > 0; part = part*2 + 1 {
				part = min(part, len(s))
				h.Write(s[:part])
				s = s[part:]
			}
			if got := h.Sum(); got != want {
				t.Errorf("a Hash of %d, %d bytes in parts: %x", k.bits, n, got)
			}
		}
	}
}

// P2.2: a text of more than 2^32 bits, whose length no longer fits 4 bytes.
func TestTextOfMoreThan32BitsOfLength(t *testing.T) {
	if testing.Short() {
		t.Skip("half a thousand million bytes")
	}
	part := text(1 << 20)
	for _, k := range kinds() {
		t.Run(strconv.Itoa(k.bits), func(t *testing.T) {
			t.Parallel()
			h, other := begun(t, k.bits, ""), k.other()
			for range 1<<9 + 1 {
				h.Write(part)
				other.Write([]byte(part))
			}
			if got, want := h.Sum(), string(other.Sum(nil)); got != want {
				t.Errorf("%x, not %x", got, want)
			}
		})
	}
}

// P2.1, P2.2, R2: bits of neither kind, with the results beside the error.
func TestBitsOfNeitherKind(t *testing.T) {
	wrong := []int{
		0, 1, -1, 32, 48, 64, 128, 160, 224, 255, 257, 320, 383, 385, 512, -256, -384, 2560, 640,
		256 + 1<<8, 256 + 1<<16, 384 + 1<<16, 256 + 1<<32, 384 + 1<<32, math.MaxInt, math.MinInt, math.MinInt + 256,
	}
	for _, bits := range wrong {
		for _, s := range []string{"", "abc", text(300)} {
			if got, e := Sum(bits, s); got != "" || e != api.ErrShaForm {
				t.Errorf("Sum(%d) of %d bytes: %x, %d", bits, len(s), got, e)
			}
		}
		if h, e := New(bits); h != nil || e != api.ErrShaForm {
			t.Errorf("New(%d): %v, %d", bits, h, e)
		}
	}
}

// P2.2: a new Hash holds nothing.
func TestNewHoldsNothing(t *testing.T) {
	for _, k := range kinds() {
		begun(t, k.bits, "something").Sum()
		if got := begun(t, k.bits, "").Sum(); got != k.want("") {
			t.Errorf("New(%d): %x", k.bits, got)
		}
	}
}

// P2.2: two parts, however they are cut.
func TestWriteInTwoParts(t *testing.T) {
	for _, k := range kinds() {
		for _, n := range []int{1, k.block - 1, k.block, k.block + 1, 2 * k.block, 2*k.block + 5, 3 * k.block} {
			s := text(n)
			want := k.want(s)
			for cut := range n + 1 {
				h := begun(t, k.bits, s[:cut])
				h.Write(s[cut:])
				if got := h.Sum(); got != want {
					t.Errorf("%d bits, %d bytes cut at %d: %x", k.bits, n, cut, got)
				}
			}
		}
	}
}

// P2.2: parts of one length each, from one byte to more than two blocks, with empty parts between.
func TestWriteInManyParts(t *testing.T) {
	s := text(700)
	for _, k := range kinds() {
		want := k.want(s)
		for part := 1; part < 2*k.block+3; part++ {
			h := begun(t, k.bits, "")
			for from := 0; from < len(s); from += part {
				h.Write(s[from:min(from+part, len(s))])
				h.Write("")
			}
			if got := h.Sum(); got != want {
				t.Errorf("%d bits, parts of %d: %x", k.bits, part, got)
			}
		}
	}
}

// P2.2: empty parts alone change nothing.
func TestWriteOfNothing(t *testing.T) {
	for _, k := range kinds() {
		for _, n := range []int{0, 1, k.block - 1, k.block, k.block + 1} {
			h := begun(t, k.bits, text(n))
			before := *h
			h.Write("")
			h.Write("")
			if *h != before || h.Sum() != k.want(text(n)) {
				t.Errorf("%d bits, nothing behind %d bytes: %x", k.bits, n, h.Sum())
			}
		}
	}
}

// P2.2: Sum() between writes tells the digest of what was written so far, as often as it is asked, and changes nothing.
func TestSumBetweenWrites(t *testing.T) {
	s := text(3*128 + 9)
	for _, k := range kinds() {
		h := begun(t, k.bits, "")
		for i := range len(s) {
			want := k.want(s[:i])
			if a, b := h.Sum(), h.Sum(); a != want || b != want {
				t.Errorf("%d bits, behind %d bytes: %x, then %x, not %x", k.bits, i, a, b, want)
			}
			before := *h
			h.Sum()
			if *h != before {
				t.Errorf("%d bits, behind %d bytes: Sum changed the Hash", k.bits, i)
			}
			h.Write(s[i : i+1])
		}
		if got := h.Sum(); got != k.want(s) {
			t.Errorf("%d bits, in the end: %x", k.bits, got)
		}
	}
}

// P2.2, R4: what Sum answered stays as it was, whatever is written later.
func TestDigestsStay(t *testing.T) {
	for _, k := range kinds() {
		h := begun(t, k.bits, "abc")
		first := h.Sum()
		h.Write(text(1000))
		h.Sum()
		if first != k.want("abc") {
			t.Errorf("%d bits: the first digest became %x", k.bits, first)
		}
	}
}

// P2.2: a fork was written the same, and the two go their own ways, whichever is written first.
func TestForksGoTheirOwnWays(t *testing.T) {
	for _, k := range kinds() {
		for n := range 2*k.block + 2 {
			s := text(n)
			h := begun(t, k.bits, s)
			f := h.Fork()
			if f == nil || f == h {
				t.Fatalf("%d bits: Fork answered %p of %p", k.bits, f, h)
			}
			if h.Sum() != k.want(s) || f.Sum() != k.want(s) {
				t.Errorf("%d bits, behind %d bytes: %x and its fork %x", k.bits, n, h.Sum(), f.Sum())
			}
			left, right := strings.Repeat("left", 50), strings.Repeat("right", 30)
			f.Write(right)
			if h.Sum() != k.want(s) || f.Sum() != k.want(s+right) {
				t.Errorf("%d bits, behind %d bytes: a fork's writing is seen: %x, %x", k.bits, n, h.Sum(), f.Sum())
			}
			h.Write(left)
			if h.Sum() != k.want(s+left) || f.Sum() != k.want(s+right) {
				t.Errorf("%d bits, behind %d bytes: a Hash's writing is seen: %x, %x", k.bits, n, h.Sum(), f.Sum())
			}
		}
	}
}

// P2.2: forks of forks, written byte by byte in turn.
func TestForksOfForks(t *testing.T) {
	for _, k := range kinds() {
		var hashes []*Hash
		var texts []string
		h, s := begun(t, k.bits, ""), ""
		for i := range 20 {
			hashes, texts = append(hashes, h), append(texts, s)
			h = h.Fork()
			s += text(11 + i)
			h.Write(s[len(texts[i]):])
		}
		for turn := range 200 {
			for i := range hashes {
				c := string([]byte{byte(turn * i)})
				hashes[i].Write(c)
				texts[i] += c
			}
		}
		for i := range hashes {
			if got := hashes[i].Sum(); got != k.want(texts[i]) {
				t.Errorf("%d bits, fork %d: %x", k.bits, i, got)
			}
		}
	}
}

// P2.2: Hashes of both kinds beside each other, written in turn, don't meet.
func TestBothKindsBesideEachOther(t *testing.T) {
	a, b, c := begun(t, 256, ""), begun(t, 384, ""), begun(t, 256, "")
	s := text(1000)
	for i := range len(s) {
		a.Write(s[i : i+1])
		b.Write(s[i : i+1])
		c.Write(s[len(s)-1-i : len(s)-i])
	}
	turned := make([]byte, len(s))
	for i := range len(s) {
		turned[len(s)-1-i] = s[i]
	}
	small, great := kinds()[0], kinds()[1]
	if a.Sum() != small.want(s) || b.Sum() != great.want(s) || c.Sum() != small.want(string(turned)) {
		t.Errorf("%x, %x, %x", a.Sum(), b.Sum(), c.Sum())
	}
}

// R3: methods of a nil pointer.
func TestMethodsOfANilPointer(t *testing.T) {
	var h *Hash
	h.Write("")
	h.Write(text(300))
	if got := h.Sum(); got != "" {
		t.Errorf("Sum: %x", got)
	}
	if f := h.Fork(); f != nil {
		t.Errorf("Fork: %v", f)
	}
}

// R1: one that New didn't make has no kind; its calls end and tell nothing.
func TestHashThatNewDidNotMake(t *testing.T) {
	h := new(Hash)
	h.Write(text(300))
	if got := h.Sum(); got != "" {
		t.Errorf("Sum: %x", got)
	}
	f := h.Fork()
	f.Write("abc")
	if got := f.Sum(); got != "" {
		t.Errorf("Sum of a fork: %x", got)
	}
}

// R4: what is written is not kept: bytes that the caller changes later are not seen.
func TestWriteKeepsNothing(t *testing.T) {
	for _, k := range kinds() {
		for _, n := range []int{1, k.block - 1, k.block, k.block + 1, 300} {
			b := []byte(text(n))
			s := string(b)
			h := begun(t, k.bits, unsafe.String(&b[0], n))
			if string(b) != s {
				t.Errorf("%d bits: Write changed its %d bytes", k.bits, n)
			}
			clear(b)
			if got := h.Sum(); got != k.want(s) {
				t.Errorf("%d bits, %d bytes changed later: %x", k.bits, n, got)
			}
		}
	}
}

// R5: plain functions from several goroutines at one time.
func TestSumFromSeveralGoroutines(t *testing.T) {
	var group sync.WaitGroup
	for i := range 16 {
		group.Add(1)
		go func() {
			defer group.Done()
			k := kinds()[i%2]
			s := text(1000 + i)
			if got, e := Sum(k.bits, s); got != k.want(s) || e != api.OK {
				t.Errorf("goroutine %d: %x, %d", i, got, e)
			}
		}()
	}
	group.Wait()
}
