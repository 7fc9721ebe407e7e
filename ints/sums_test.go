package ints_test

import (
	"math"
	"math/big"
	"testing"

	"groundling/ints"
)

// saturated is x, or the int64 that is nearest to it.
func saturated(x *big.Int) int64 {
	switch {
	case x.IsInt64():
		return x.Int64()
	case x.Sign() < 0:
		return math.MinInt64
	}
	return math.MaxInt64
}

func checkSums(t *testing.T, a, b int64) {
	t.Helper()
	x, y := big.NewInt(a), big.NewInt(b)
	if got, want := ints.Add(a, b), saturated(new(big.Int).Add(x, y)); got != want {
		t.Fatalf("Add(%d, %d) is %d, not %d", a, b, got, want)
	}
	if got, want := ints.Mul(a, b), saturated(new(big.Int).Mul(x, y)); got != want {
		t.Fatalf("Mul(%d, %d) is %d, not %d", a, b, got, want)
	}
}

// P2.6: sums and products of all pairs of numbers around the powers, with both signs.
func TestSums(t *testing.T) {
	l := numbers()
	for _, a := range l {
		for _, b := range l {
			checkSums(t, int64(a), int64(b))
		}
	}
	for a := int64(-130); a <= 130; a++ {
		for b := int64(-130); b <= 130; b++ {
			checkSums(t, a, b)
			checkSums(t, math.MaxInt64-a, b)
			checkSums(t, math.MinInt64+a, b)
		}
	}
}

// P2.6: products at their limits: 2^63 - 1 is 7 times another number, -2^63 is -2 times another.
func TestProductLimits(t *testing.T) {
	const seventh = math.MaxInt64 / 7
	for a := int64(seventh - 2); a <= seventh+2; a++ {
		for _, b := range []int64{-8, -7, -6, 6, 7, 8} {
			checkSums(t, a, b)
			checkSums(t, b, -a)
		}
	}
	for _, x := range []struct{ a, b, want int64 }{
		{math.MinInt64, -1, math.MaxInt64},
		{-1, math.MinInt64, math.MaxInt64},
		{math.MinInt64, 1, math.MinInt64},
		{math.MinInt64, 0, 0},
		{0, math.MinInt64, 0},
		{1 << 62, -2, math.MinInt64},
		{1 << 62, 2, math.MaxInt64},
		{math.MinInt64, math.MinInt64, math.MaxInt64},
		{math.MinInt64, math.MaxInt64, math.MinInt64},
	} {
		if got := ints.Mul(x.a, x.b); got != x.want {
			t.Errorf("Mul(%d, %d) is %d, not %d", x.a, x.b, got, x.want)
		}
	}
}

// wantShift is Shift by the definition; more than 200 places are like 200, since a number has 64 bits.
func wantShift(a int64, k int) int64 {
	x := big.NewInt(a)
	if k >= 0 {
		return saturated(x.Mul(x, power(2, min(k, 200))))
	}
	floor, rest := new(big.Int).DivMod(x, power(2, min(-max(k, -200), 200)), new(big.Int))
	if rest.Sign() < 0 {
		panic("DivMod has no rest below 0")
	}
	return saturated(floor)
}

// P2.6: each number by few and by very many places.
func TestShift(t *testing.T) {
	places := []int{math.MinInt, math.MinInt + 1, math.MinInt / 2, -1000, 1000, math.MaxInt / 2, math.MaxInt - 1, math.MaxInt}
	for k := -130; k <= 130; k++ {
		places = append(places, k)
	}
	for _, n := range append(numbers(), 5, 6, 7, 9, 10, 11) {
		for _, k := range places {
			for _, a := range []int64{int64(n), -int64(n)} {
				if got, want := ints.Shift(a, k), wantShift(a, k); got != want {
					t.Fatalf("Shift(%d, %d) is %d, not %d", a, k, got, want)
				}
			}
		}
	}
	for _, x := range []struct {
		a    int64
		k    int
		want int64
	}{
		{3, 61, 6917529027641081856},
		{3, 62, math.MaxInt64},
		{-3, -1, -2},
		{-3, 64, math.MinInt64},
		{-1, 63, math.MinInt64},
		{1, 63, math.MaxInt64},
		{0, math.MaxInt, 0},
		{-1, math.MinInt, -1},
		{math.MaxInt64, math.MinInt, 0},
		{math.MinInt64, -63, -1},
	} {
		if got := ints.Shift(x.a, x.k); got != x.want {
			t.Errorf("Shift(%d, %d) is %d, not %d", x.a, x.k, got, x.want)
		}
	}
}
