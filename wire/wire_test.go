package wire

import (
	"math"
	"strings"
	"testing"
	"unsafe"

	"halberd/api"
)

// reader is one of U8 to U32, with the bytes that it reads.
type reader struct {
	name string
	size int
	read func(string, int) (int, int, api.Errno)
}

func readers() []reader {
	return []reader{{"U8", 1, U8}, {"U16", 2, U16}, {"U24", 3, U24}, {"U32", 4, U32}}
}

// byHand reads a number by multiplying, as a check on the shifts of the program.
func byHand(s string) int {
	x := 0
	for i := range len(s) {
		x = x*256 + int(s[i])
	}
	return x
}

// farPlaces are places outside any text, or so far off that adding to them wraps round.
func farPlaces() []int {
	return []int{-1, -2, -4, math.MinInt, math.MinInt + 1, math.MaxInt, math.MaxInt - 1, math.MaxInt - 3, 1 << 32}
}

// P1.1: ordinary numbers, the highest byte first, and the place behind.
func TestReadersTellTheNumberAndThePlaceBehind(t *testing.T) {
	s := "\x00\x01\x02\x83\xff\xff\xff\xff\x80\x00\x00\x00\x7f"
	for _, r := range readers() {
		for at := 0; at+r.size <= len(s); at++ {
			want := byHand(s[at : at+r.size])
			if x, to, e := r.read(s, at); x != want || to != at+r.size || e != api.OK {
				t.Errorf("%s at %d: %d, %d, %d, not %d, %d, 0", r.name, at, x, to, e, want, at+r.size)
			}
		}
	}
}

// P1.1: each size's greatest and smallest number.
func TestReadersAtTheEndsOfTheRange(t *testing.T) {
	greatest := map[string]int{"U8": 255, "U16": 65535, "U24": 16777215, "U32": 4294967295}
	for _, r := range readers() {
		if x, to, e := r.read(strings.Repeat("\xff", r.size), 0); x != greatest[r.name] || to != r.size || e != api.OK {
			t.Errorf("%s of all ones: %d, %d, %d", r.name, x, to, e)
		}
		if x, to, e := r.read(strings.Repeat("\x00", r.size), 0); x != 0 || to != r.size || e != api.OK {
			t.Errorf("%s of zeros: %d, %d, %d", r.name, x, to, e)
		}
		if x, _, e := r.read("\x01"+strings.Repeat("\x00", r.size), 1); x != 0 || e != api.OK {
			t.Errorf("%s took a byte ahead of the place: %d, %d", r.name, x, e)
		}
	}
}

// P1.1: ErrWireCut where bytes are missing, at the length too, and zeros beside it (R2).
func TestReadersCutShort(t *testing.T) {
	for _, r := range readers() {
		for length := range 6 {
			s := strings.Repeat("\xff", length)
			for at := max(0, length-r.size+1); at <= length; at++ {
				if x, to, e := r.read(s, at); x != 0 || to != 0 || e != api.ErrWireCut {
					t.Errorf("%s of %d bytes at %d: %d, %d, %d", r.name, length, at, x, to, e)
				}
			}
		}
	}
}

// P1.1: ErrWireCut at places outside the text, and zeros beside it (R1, R2).
func TestReadersOutsideTheText(t *testing.T) {
	for _, r := range readers() {
		for _, s := range []string{"", "\x01", "\x01\x02\x03\x04\x05\x06\x07\x08"} {
			for _, at := range append(farPlaces(), len(s)+1) {
				if x, to, e := r.read(s, at); x != 0 || to != 0 || e != api.ErrWireCut {
					t.Errorf("%s of %d bytes at %d: %d, %d, %d", r.name, len(s), at, x, to, e)
				}
			}
		}
	}
}

// P1.2: the bytes and the place behind, whatever stands around them.
func TestVecTellsTheBytesAndThePlaceBehind(t *testing.T) {
	for i, c := range []struct {
		s        string
		at, size int
		want     string
		to       int
	}{
		{"\x00", 0, 1, "", 1},
		{"\x00\x00", 0, 2, "", 2},
		{"\x00\x00\x00", 0, 3, "", 3},
		{"\x03abc", 0, 1, "abc", 4},
		{"\x00\x03abc", 0, 2, "abc", 5},
		{"\x00\x00\x03abc", 0, 3, "abc", 6},
		{"zz\x02abc", 2, 1, "ab", 5},
		{"zz\x00\x02abc", 2, 2, "ab", 6},
		{"zz\x00\x00\x02abc", 2, 3, "ab", 7},
		{"\xff\x00", 1, 1, "", 2},
	} {
		if v, to, e := Vec(c.s, c.at, c.size); v != c.want || to != c.to || e != api.OK {
			t.Errorf("row %d: %q, %d, %d", i, v, to, e)
		}
	}
}

// P1.2: the length's bytes are all used, the highest first.
func TestVecOfLongLengths(t *testing.T) {
	for _, c := range []struct {
		head   string
		length int
	}{{"\xff", 255}, {"\x01\x02", 258}, {"\xff\xff", 65535}, {"\x00\x01\x00", 256}, {"\x01\x02\x03", 66051}, {"\xff\xff\xff", 16777215}} {
		body := strings.Repeat("b", c.length)
		size := len(c.head)
		if v, to, e := Vec(c.head+body+"y", 0, size); v != body || to != size+c.length || e != api.OK {
			t.Errorf("%x: %d bytes, %d, %d", c.head, len(v), to, e)
		}
		if v, to, e := Vec(c.head+body, 0, size); v != body || to != size+c.length || e != api.OK {
			t.Errorf("%x, nothing behind: %d bytes, %d, %d", c.head, len(v), to, e)
		}
		if v, to, e := Vec(c.head+body[1:], 0, size); v != "" || to != 0 || e != api.ErrWireCut {
			t.Errorf("%x, a byte short: %d bytes, %d, %d", c.head, len(v), to, e)
		}
	}
}

// P1.2: ErrWireCut wherever a vector is cut, in its length or in its bytes, and zeros beside it (R2).
func TestVecCutShort(t *testing.T) {
	for size := 1; size <= 3; size++ {
		whole := strings.Repeat("\x00", size-1) + "\x05hello"
		for length := range len(whole) {
			if v, to, e := Vec(whole[:length], 0, size); v != "" || to != 0 || e != api.ErrWireCut {
				t.Errorf("size %d, %d bytes: %q, %d, %d", size, length, v, to, e)
			}
		}
		if v, to, e := Vec(whole, len(whole), size); v != "" || to != 0 || e != api.ErrWireCut {
			t.Errorf("size %d, at the length: %q, %d, %d", size, v, to, e)
		}
	}
}

// P1.2: ErrWireCut at places outside the text, and zeros beside it (R1, R2).
func TestVecOutsideTheText(t *testing.T) {
	for size := 1; size <= 3; size++ {
		for _, s := range []string{"", "\x00\x00\x00\x00"} {
			for _, at := range append(farPlaces(), len(s)+1) {
				if v, to, e := Vec(s, at, size); v != "" || to != 0 || e != api.ErrWireCut {
					t.Errorf("size %d at %d: %q, %d, %d", size, at, v, to, e)
				}
			}
		}
	}
}

// P1.2: ErrWireLong for a wrong size, ahead of ErrWireCut (R6), and zeros beside it (R2).
func TestVecOfWrongSizes(t *testing.T) {
	for _, size := range []int{0, 4, 5, -1, 8, math.MinInt, math.MaxInt} {
		for _, at := range append(farPlaces(), 0, 5) {
			for _, s := range []string{"", "\x00\x00\x00\x00\x00"} {
				if v, to, e := Vec(s, at, size); v != "" || to != 0 || e != api.ErrWireLong {
					t.Errorf("size %d at %d of %d bytes: %q, %d, %d", size, at, len(s), v, to, e)
				}
			}
		}
	}
}

// P1.2, R4: what is answered is not a piece of what was handed in.
func TestVecSharesNoMemory(t *testing.T) {
	s := "\x20" + strings.Repeat("m", 32)
	v, _, e := Vec(s, 0, 1)
	if e != api.OK || unsafe.StringData(v) == unsafe.StringData(s[1:]) {
		t.Errorf("%d: the answer is a piece of the argument", e)
	}
}

// P1.3: the bytes of a number, the highest first, with zeros ahead where it is small.
func TestPutWritesTheHighestByteFirst(t *testing.T) {
	for i, c := range []struct {
		x, size int
		want    string
	}{
		{0, 1, "\x00"}, {0, 2, "\x00\x00"}, {0, 3, "\x00\x00\x00"}, {0, 4, "\x00\x00\x00\x00"},
		{7, 1, "\x07"}, {7, 2, "\x00\x07"}, {7, 3, "\x00\x00\x07"}, {7, 4, "\x00\x00\x00\x07"},
		{0x0102, 2, "\x01\x02"}, {0x010203, 3, "\x01\x02\x03"}, {0x01020304, 4, "\x01\x02\x03\x04"},
		{256, 2, "\x01\x00"}, {65536, 3, "\x01\x00\x00"}, {16777216, 4, "\x01\x00\x00\x00"},
		{255, 1, "\xff"}, {65535, 2, "\xff\xff"}, {16777215, 3, "\xff\xff\xff"}, {4294967295, 4, "\xff\xff\xff\xff"},
	} {
		if s, e := Put(c.x, c.size); s != c.want || e != api.OK {
			t.Errorf("row %d: %q, %d", i, s, e)
		}
	}
}

// P1.3: ErrWireLong just outside each size's numbers and far outside, and an empty text beside it (R2).
func TestPutOfNumbersThatDoNotFit(t *testing.T) {
	for size, first := range map[int]int{1: 256, 2: 65536, 3: 16777216, 4: 4294967296} {
		for _, x := range []int{first, first + 1, -1, -first, 1 << 32, 1 << 40, 1 << 62, math.MaxInt, math.MinInt} {
			if s, e := Put(x, size); s != "" || e != api.ErrWireLong {
				t.Errorf("%d in %d: %q, %d", x, size, s, e)
			}
		}
	}
}

// P1.3: ErrWireLong for a size outside 1 to 4 (R1, R2).
func TestPutOfWrongSizes(t *testing.T) {
	for _, size := range []int{0, 5, 8, -1, -4, math.MinInt, math.MaxInt} {
		for _, x := range []int{0, 1, -1, math.MaxInt, math.MinInt} {
			if s, e := Put(x, size); s != "" || e != api.ErrWireLong {
				t.Errorf("%d in %d: %q, %d", x, size, s, e)
			}
		}
	}
}

// P1.3: a text's length, then the text; just as long as a size tells, too.
func TestPutVecWritesTheLengthAhead(t *testing.T) {
	for _, c := range []struct {
		head   string
		length int
	}{
		{"\x00", 0}, {"\x00\x00", 0}, {"\x00\x00\x00", 0},
		{"\x03", 3}, {"\x00\x03", 3}, {"\x00\x00\x03", 3},
		{"\xff", 255}, {"\x01\x00", 256}, {"\xff\xff", 65535}, {"\x01\x00\x00", 65536}, {"\xff\xff\xff", 16777215},
	} {
		s := strings.Repeat("\xc3", c.length)
		if v, e := PutVec(s, len(c.head)); v != c.head+s || e != api.OK {
			t.Errorf("%d bytes in %d: %d bytes, %d", c.length, len(c.head), len(v), e)
		}
	}
}

// P1.3: ErrWireLong for a text of one byte more than a size tells, and an empty text beside it (R2).
func TestPutVecOfTextsThatDoNotFit(t *testing.T) {
	for size, length := range map[int]int{1: 256, 2: 65536, 3: 16777216} {
		for _, more := range []int{0, 1, 255} {
			if v, e := PutVec(strings.Repeat("t", length+more), size); v != "" || e != api.ErrWireLong {
				t.Errorf("%d bytes in %d: %d bytes, %d", length+more, size, len(v), e)
			}
		}
	}
}

// P1.3: ErrWireLong for a size outside 1 to 3; 4 is Put's alone.
func TestPutVecOfWrongSizes(t *testing.T) {
	for _, size := range []int{0, 4, 5, 8, -1, math.MinInt, math.MaxInt} {
		for _, s := range []string{"", "a", strings.Repeat("a", 300)} {
			if v, e := PutVec(s, size); v != "" || e != api.ErrWireLong {
				t.Errorf("%d bytes in %d: %q, %d", len(s), size, v, e)
			}
		}
	}
}

// P1.1 to P1.3: what is written is read back, in the midst of other bytes.
func TestThereAndBack(t *testing.T) {
	for _, r := range readers() {
		for _, x := range []int{0, 1, 127, 128, 255, 256, 65535, 65536, 16777215, 16777216, 4294967295} {
			s, e := Put(x, r.size)
			if fits := x < 1<<(8*r.size); fits != (e == api.OK) {
				t.Errorf("%d in %d: %d", x, r.size, e)
			} else if fits {
				if back, to, f := r.read("ab"+s+"cd", 2); back != x || to != 2+r.size || f != api.OK {
					t.Errorf("%s of %d: %d, %d, %d", r.name, x, back, to, f)
				}
			}
		}
	}
	for size := 1; size <= 3; size++ {
		for _, body := range []string{"", "\x00", "abc", strings.Repeat("\xff", 255)} {
			v, e := PutVec(body, size)
			if back, to, f := Vec("ab"+v+"cd", 2, size); back != body || to != 2+len(v) || e != api.OK || f != api.OK {
				t.Errorf("%d bytes in %d: %d bytes, %d, %d, %d", len(body), size, len(back), to, e, f)
			}
		}
	}
}
