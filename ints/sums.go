package ints

import (
	"math"
	"math/bits"
)

// integer is the integers with a sign.
type integer interface {
	~int | ~int8 | ~int16 | ~int32 | ~int64
}

// Add returns a + b, saturating.
func Add(a, b int64) int64 { return sum(a, b, math.MinInt64, math.MaxInt64) }

// Mul returns a * b, saturating.
func Mul(a, b int64) int64 {
	high, low := bits.Mul64(magnitude(a), magnitude(b))
	if high != 0 {
		low = math.MaxUint64
	}
	return withSign(low, (a < 0) != (b < 0))
}

// Shift returns a times 2 to the power of k, saturating; for k below 0 it is rounded down.
func Shift(a int64, k int) int64 {
	if k < 0 {
		// As an unsigned number -k is right for the least k too, which has no counterpart above 0.
		return a >> uint(-k)
	}
	if a<<k>>k == a {
		return a << k
	}
	return withSign(math.MaxUint64, a < 0)
}

// sum returns a + b, but no less than least, which is at most 0, and no more than most, which is at least 0.
func sum[T integer](a, b, least, most T) T {
	// The differences cannot overflow, since b and the limit from which it is taken have the same sign.
	switch {
	case b > 0 && a > most-b:
		return most
	case b < 0 && a < least-b:
		return least
	}
	return a + b
}

// magnitude returns n without its sign.
func magnitude(n int64) uint64 {
	if n < 0 {
		// The negation wraps around for the least integer, whose bits are those of 2^63.
		return uint64(-n)
	}
	return uint64(n)
}

// withSign returns the integer of this size, negative or not, saturating.
func withSign(size uint64, negative bool) int64 {
	if negative {
		// -2^63 is the only one whose size is no int64.
		if size > math.MaxInt64 {
			return math.MinInt64
		}
		return -int64(size)
	}
	return int64(min(size, math.MaxInt64))
}
