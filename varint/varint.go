// Package varint: numbers as bytes (layer 1).
package varint

import "math/bits"

const (
	groupBits = 7              // how many bits of a number a byte has
	more      = 1 << groupBits // what is added to a byte that another one follows
	maxSize   = 10             // how many bytes a number has at most
	lastMost  = 1              // the last of maxSize bytes has room for just one of the 64 bits
)

// Size returns how many bytes a number has.
func Size(n uint64) int {
	// Even 0, which has no bits, is written as one group.
	return max(1, (bits.Len64(n)+groupBits-1)/groupBits)
}

// Zig returns the number that stands for a signed one, Zag the signed one for which a number stands.
func Zig(n int) uint64 {
	if n < 0 {
		// ^n is -n - 1, and so, unlike -n, never too large.
		return uint64(^n)<<1 | 1
	}
	return uint64(n) << 1
}
func Zag(n uint64) int {
	if n&1 != 0 {
		return ^int(n >> 1)
	}
	return int(n >> 1)
}
