package ints

import (
	"math"

	"groundling/api"
)

// maxBits is how many bits a number has at most.
const maxBits = 64

// Zig returns the number of n in the order 0, -1, 1, -2, 2 and so on, from 0 on.
func Zig(n int64) uint64 { return uint64(n<<1) ^ uint64(n>>63) }

// Zag returns the integer that has the number n in this order.
func Zag(n uint64) int64 { return int64(n>>1) ^ -int64(n&1) }

// Fit returns n as it is written in a number of bits.
func Fit(n int64, bits int, signed bool) (uint64, api.Errno) {
	if !countsBits(bits) {
		return 0, api.ErrRange
	}
	// The lowest bits are right just if n can be had back from them.
	written := uint64(n) & lowest(bits)
	if back, e := Widen(written, bits, signed); e != api.OK || back != n {
		return 0, api.ErrRange
	}
	return written, api.OK
}

// Widen returns the integer that is written as n in a number of bits.
func Widen(n uint64, bits int, signed bool) (int64, api.Errno) {
	if !countsBits(bits) || !fits(n, bits) {
		return 0, api.ErrRange
	}
	if signed {
		// The sign is shifted to the highest bit, from which the shift back fills the bits above.
		above := maxBits - bits
		return int64(n<<above) >> above, api.OK
	}
	if n > math.MaxInt64 {
		return 0, api.ErrRange
	}
	return int64(n), api.OK
}

// Turn returns n with its bits, so many of them, turned round by k places, towards the higher ones for k above 0.
func Turn(n uint64, bits, k int) (uint64, api.Errno) {
	if !countsBits(bits) || !fits(n, bits) {
		return 0, api.ErrRange
	}
	up := k % bits
	if up < 0 {
		up += bits
	}
	return (n<<up | n>>(bits-up)) & lowest(bits), api.OK
}

// Field returns the number that the bits of n from at on are, many of them.
func Field(n uint64, at, many int) (uint64, api.Errno) {
	if !isField(at, many) {
		return 0, api.ErrRange
	}
	return n >> at & lowest(many), api.OK
}

// With returns n, in which the bits from at on, many of them, are v.
func With(n uint64, at, many int, v uint64) (uint64, api.Errno) {
	if !isField(at, many) || !fits(v, many) {
		return 0, api.ErrRange
	}
	return n&^(lowest(many)<<at) | v<<at, api.OK
}

// countsBits reports whether a number may have so many bits.
func countsBits(bits int) bool { return bits >= 1 && bits <= maxBits }

// isField reports whether a number has bits from at on, many of them.
func isField(at, many int) bool {
	return at >= 0 && at < maxBits && many >= 1 && many <= maxBits-at
}

// fits reports whether n is less than 2 to the power of bits, which are from 0 to 64.
func fits(n uint64, bits int) bool { return n>>bits == 0 }

// lowest returns the number whose lowest bits, many of them, from 0 to 64, are 1.
func lowest(many int) uint64 { return 1<<many - 1 }
