// Package wire reads and writes numbers and vectors as bytes, the highest byte first (DOC.md, chapter 1).
package wire

import (
	"strings"

	"halberd/api"
)

// Sizes, in bytes, that the calls take.
const (
	maxNumberSize = 4
	maxVecSize    = 3
)

// U8 reads a number of one byte; it answers the place behind it too.
func U8(s string, at int) (int, int, api.Errno) {
	return number(s, at, 1)
}

// U16 reads a number of two bytes; it answers the place behind it too.
func U16(s string, at int) (int, int, api.Errno) {
	return number(s, at, 2)
}

// U24 reads a number of three bytes; it answers the place behind it too.
func U24(s string, at int) (int, int, api.Errno) {
	return number(s, at, 3)
}

// U32 reads a number of four bytes; it answers the place behind it too.
func U32(s string, at int) (int, int, api.Errno) {
	return number(s, at, 4)
}

// Vec reads a vector: its length, of size bytes, and as many bytes as it says; it answers the place behind it too.
func Vec(s string, at int, size int) (string, int, api.Errno) {
	if !vecSize(size) {
		return "", 0, api.ErrWireLong
	}
	length, from, e := number(s, at, size)
	if e != api.OK {
		return "", 0, e
	}
	if !holds(s, from, length) {
		return "", 0, api.ErrWireCut
	}
	to := from + length
	// A piece of s would share its memory and keep all of it alive.
	return strings.Clone(s[from:to]), to, api.OK
}

// Put writes x as size bytes.
func Put(x int, size int) (string, api.Errno) {
	if size < 1 || size > maxNumberSize || x < 0 || x > greatest(size) {
		return "", api.ErrWireLong
	}
	return digits(x, size), api.OK
}

// PutVec writes s as a vector: its length, of size bytes, and s.
func PutVec(s string, size int) (string, api.Errno) {
	if !vecSize(size) || len(s) > greatest(size) {
		return "", api.ErrWireLong
	}
	return digits(len(s), size) + s, api.OK
}

// vecSize tells whether a vector's length may have size bytes.
func vecSize(size int) bool {
	return size >= 1 && size <= maxVecSize
}

// greatest is the greatest number of size bytes.
func greatest(size int) int {
	return 1<<(8*size) - 1
}

// holds tells whether s has n bytes at the place at.
func holds(s string, at int, n int) bool {
	// at + n could wrap round, what is left of s can't.
	return at >= 0 && at <= len(s) && n <= len(s)-at
}

// number reads a number of size bytes, from 1 to 4.
func number(s string, at int, size int) (int, int, api.Errno) {
	if !holds(s, at, size) {
		return 0, 0, api.ErrWireCut
	}
	x, to := 0, at+size
	switch size {
	case 4:
		x |= int(s[to-4]) << 24
		fallthrough
	case 3:
		x |= int(s[to-3]) << 16
		fallthrough
	case 2:
		x |= int(s[to-2]) << 8
		fallthrough
	case 1:
		x |= int(s[to-1])
	}
	return x, to, api.OK
}

// digits writes x, which fits, as size bytes, from 1 to 4.
func digits(x int, size int) string {
	b := make([]byte, 0, maxNumberSize)
	switch size {
	case 4:
		b = append(b, byte(x>>24))
		fallthrough
	case 3:
		b = append(b, byte(x>>16))
		fallthrough
	case 2:
		b = append(b, byte(x>>8))
		fallthrough
	case 1:
		b = append(b, byte(x))
	}
	return string(b)
}
