// Package octet encodes numbers and strings as bytes, and decodes them.
package octet

import (
	"math/bits"
	"strings"

	"billet/api"
)

const (
	more    = 0x80 // the bit of a byte that says that its varint goes on
	longest = 10   // bytes of the longest varint
)

// Fixed returns v as a big-endian number in n bytes.
func Fixed(v uint64, n int) (string, api.Errno) {
	if n < 1 || n > 8 || bits.Len64(v) > 8*n {
		return "", api.ErrArg
	}
	b := make([]byte, n)
	for i := range n {
		b[n-1-i] = byte(v >> (8 * i))
	}
	return string(b), api.OK
}

// Number decodes a big-endian number that takes up all of s.
func Number(s string) (uint64, api.Errno) {
	if len(s) < 1 || len(s) > 8 {
		return 0, api.ErrArg
	}
	var v uint64
	for i := range len(s) {
		v = v<<8 | uint64(s[i])
	}
	return v, api.OK
}

// Chain returns the varint of v.
func Chain(v uint64) string {
	n := max(1, (bits.Len64(v)+6)/7)
	b := make([]byte, n)
	for i := range n {
		b[i] = byte(v>>(7*i)) | more
	}
	b[n-1] &^= more
	return string(b)
}

// Unchain decodes the varint with which s begins, and also returns its length.
func Unchain(s string) (uint64, int, api.Errno) {
	var v uint64
	for i := range min(len(s), longest) {
		v |= uint64(s[i]&^more) << (7 * i)
		if s[i]&more != 0 {
			continue
		}
		if !mayEnd(i, s[i]) {
			return 0, 0, api.ErrForm
		}
		return v, i + 1, api.OK
	}
	if len(s) < longest {
		return 0, 0, api.ErrShort
	}
	return 0, 0, api.ErrForm
}

// mayEnd reports whether last, at index i of a varint, may be its last byte.
func mayEnd(i int, last byte) bool {
	if i == longest-1 {
		// Nine groups of seven bits leave one bit of 64.
		return last == 1
	}
	// A highest group of 0 would make the varint longer than it need be.
	return i == 0 || last != 0
}

// Text returns s as an encoded string.
func Text(s string) string {
	return Chain(uint64(len(s))) + s
}

// Untext decodes the encoded string with which s begins, of at most most
// bytes, and also returns the length of its whole encoding.
func Untext(s string, most int) (string, int, api.Errno) {
	size, start, err := Unchain(s)
	if err != api.OK {
		return "", 0, err
	}
	if above(size, most) {
		return "", 0, api.ErrLong
	}
	// Compared before it is added to start: the sum could overflow.
	if size > uint64(len(s)-start) {
		return "", 0, api.ErrShort
	}
	end := start + int(size)
	// A clone, so that a short string does not keep all of s in memory.
	return strings.Clone(s[start:end]), end, api.OK
}

// above reports whether v is greater than most, which may be below 0.
func above(v uint64, most int) bool {
	return most < 0 || v > uint64(most)
}
