// Package wire is layer 1: see shared/doc/01-wire.md.
package wire

import (
	"bytes"
	"slices"
	"strings"

	"hornbook/api"
)

const (
	most  = 8 // bytes of a word
	signs = "0123456789abcdef"
)

// may: is there a word of so many bytes?
func may(size int) bool { return size >= 1 && size <= most }

// fits: does the number fit into a word of so many bytes? (A shift by all 64 bits leaves nought: any number fits into 8.)
func fits(n uint64, size int) bool { return may(size) && n>>(8*size) == 0 }

// stands: are there so many bytes at that place? (The size is known to be small here: nothing wraps round.)
func stands(b []byte, from, size int) bool {
	return may(size) && from >= 0 && from <= len(b)-size
}

// number is what bytes are, 8 at most, or none.
func number(b []byte) uint64 {
	var n uint64
	for i := range len(b) {
		n |= uint64(b[i]) << (8 * i)
	}
	return n
}

// Put is a word's bytes.
func Put(n uint64, size int) ([]byte, api.Errno) {
	if !fits(n, size) {
		return nil, api.ErrArg
	}
	b := make([]byte, size)
	for i := range size {
		b[i] = byte(n >> (8 * i))
	}
	return b, api.OK
}

// Get is the number that bytes are.
func Get(b []byte) (uint64, api.Errno) {
	if !may(len(b)) {
		return 0, api.ErrArg
	}
	return number(b), api.OK
}

// At is the number of a word that stands in bytes.
func At(b []byte, from, size int) (uint64, api.Errno) {
	if !stands(b, from, size) {
		return 0, api.ErrArg
	}
	to := from + size
	return number(b[from:to:to]), api.OK
}

// Set are bytes with a word at a place.
func Set(b []byte, from int, n uint64, size int) ([]byte, api.Errno) {
	word, e := Put(n, size)
	if e != api.OK || !stands(b, from, size) {
		return nil, api.ErrArg
	}
	return Join(b[:from:from], word, b[from+size:]), api.OK
}

// Word is an eighth of bytes.
func Word(b []byte, i int) uint64 {
	if i < 0 || i > len(b)/most { // of an i that is great enough its place would wrap round
		return 0
	}
	from := i * most
	to := min(from+most, len(b))
	return number(b[from:to:to])
}

// Join are the bytes of all lists.
func Join(l ...[]byte) []byte { return slices.Concat(l...) }

// Same: are both the same?
func Same(a, b []byte) bool { return bytes.Equal(a, b) }

// Hex are the signs of bytes.
func Hex(b []byte) string {
	text := make([]byte, 0, 2*len(b))
	for _, x := range b {
		text = append(text, signs[x>>4], signs[x&15])
	}
	return string(text)
}

// Unhex are the bytes of signs.
func Unhex(s string) ([]byte, api.Errno) {
	half := len(s) / 2
	b := make([]byte, 0, half)
text:
	for i := range half {
		var x byte
		for j := range 2 {
			bits := strings.IndexByte(signs, s[2*i+j])
			if bits < 0 {
				break text
			}
			x = x<<4 | byte(bits)
		}
		b = append(b, x)
	}
	if 2*len(b) != len(s) { // left ahead of its end, or of an odd number of signs
		return nil, api.ErrBytes
	}
	return b, api.OK
}
