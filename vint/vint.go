// Package vint is layer 1: see shared/doc/01-vint.md.
package vint

import (
	"math/bits"

	"gristmill/api"
)

// longest is the length of a number that does not fit the 7k bits of a shorter one: its first byte is all mark.
const longest = 9

// Put returns b followed by the encoding of n, in new memory.
func Put(b []byte, n uint64) []byte {
	return appendNumber(copyWithRoom(b, Len(n)), n)
}

// Get reads the number that begins at index at, and tells the index after it.
func Get(b []byte, at int) (n uint64, next int, e api.Errno) {
	if at < 0 || at > len(b) {
		return 0, 0, api.ErrRange
	}
	if at == len(b) {
		return 0, 0, api.ErrShort
	}
	k := announced(b[at])
	if k > len(b)-at {
		return 0, 0, api.ErrShort
	}
	n = uint64(b[at] &^ mark(k))
	for _, c := range b[at+1 : at+k] {
		n = n<<8 | uint64(c)
	}
	// A number has one encoding only, or bytes that are read could not be told from the bytes that were written.
	if k > Len(n) {
		return 0, 0, api.ErrForm
	}
	return n, at + k, api.OK
}

// Len returns the number of bytes of the encoding of n.
func Len(n uint64) int {
	for k := 1; k < longest; k++ {
		if n < 1<<(7*k) {
			return k
		}
	}
	return longest
}

// PutInt is Put of a number with a sign: the sign goes into the lowest bit, so that numbers near 0 stay short.
func PutInt(b []byte, n int) []byte {
	m := 2 * uint64(n)
	if n < 0 {
		m = -m - 1
	}
	return Put(b, m)
}

// GetInt reads what PutInt wrote.
func GetInt(b []byte, at int) (n, next int, e api.Errno) {
	m, next, e := Get(b, at)
	if e != api.OK {
		return 0, 0, e
	}
	n = int(m / 2)
	if m%2 == 1 {
		// This is -(m+1)/2, but m+1 need not fit in 64 bits.
		n = -1 - n
	}
	return n, next, api.OK
}

// PutText returns b followed by the number of bytes of s and these bytes, in new memory.
func PutText(b []byte, s string) []byte {
	n := uint64(len(s))
	return append(appendNumber(copyWithRoom(b, Len(n)+len(s)), n), s...)
}

// GetText reads what PutText wrote, if it has at most so many bytes.
func GetText(b []byte, at, most int) (s string, next int, e api.Errno) {
	n, from, e := Get(b, at)
	if e != api.OK {
		return "", 0, e
	}
	// n may be greater than any int: it is compared before it is converted.
	if most < 0 || n > uint64(most) {
		return "", 0, api.ErrLong
	}
	if n > uint64(len(b)-from) {
		return "", 0, api.ErrShort
	}
	next = from + int(n)
	return string(b[from:next]), next, api.OK
}

// announced returns the number of bytes of an encoding that begins with this byte.
func announced(first byte) int {
	return bits.LeadingZeros8(^first) + 1
}

// mark returns the leading one bits by which a first byte announces k bytes.
func mark(k int) byte {
	return byte(255) << (longest - k)
}

// copyWithRoom returns a copy of b with room for so many bytes more: b's own spare room belongs to the caller.
func copyWithRoom(b []byte, more int) []byte {
	return append(make([]byte, 0, len(b)+more), b...)
}

// appendNumber writes into b itself, which must be the package's own copy.
func appendNumber(b []byte, n uint64) []byte {
	first := len(b)
	k := Len(n)
	for i := range k {
		b = append(b, byte(n>>(8*(k-1-i))))
	}
	b[first] |= mark(k)
	return b
}
