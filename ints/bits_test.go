package ints_test

import (
	"math"
	"math/big"
	"testing"

	"groundling/api"
	"groundling/ints"
)

// strangeBits are those that no number has.
var strangeBits = []int{math.MinInt, -64, -1, 0, 65, 66, 128, math.MaxInt}

// P2.3 and P2.7: the order of the definition, from its beginning on.
func TestZigOrder(t *testing.T) {
	n := int64(0)
	for i := range uint64(100_000) {
		if ints.Zig(n) != i || ints.Zag(i) != n {
			t.Fatalf("Zig(%d) is %d, Zag(%d) is %d", n, ints.Zig(n), i, ints.Zag(i))
		}
		if n < 0 {
			n = -n
		} else {
			n = -n - 1
		}
	}
}

// P2.3 and P2.7: a number from 0 on has twice the number, one below 0 one less than twice its size.
func TestZigAll(t *testing.T) {
	for _, bits := range numbers() {
		n := int64(bits)
		want := new(big.Int).Lsh(big.NewInt(n), 1)
		if n < 0 {
			want.Neg(want).Sub(want, big.NewInt(1))
		}
		if got := ints.Zig(n); got != want.Uint64() || !want.IsUint64() {
			t.Errorf("Zig(%d) is %d, not %s", n, got, want)
		}
		if got := ints.Zag(ints.Zig(n)); got != n {
			t.Errorf("Zag of Zig of %d is %d", n, got)
		}
		if got := ints.Zig(ints.Zag(bits)); got != bits {
			t.Errorf("Zig of Zag of %d is %d", bits, got)
		}
	}
	for n, want := range map[int64]uint64{0: 0, -1: 1, 1: 2, 2: 4, -2: 3, math.MaxInt64: math.MaxUint64 - 1, math.MinInt64: math.MaxUint64} {
		if ints.Zig(n) != want || ints.Zag(want) != n {
			t.Errorf("Zig(%d) is %d, Zag(%d) is %d", n, ints.Zig(n), want, ints.Zag(want))
		}
	}
}

// wantFit is Fit by the definition.
func wantFit(n int64, bits int, signed bool) (uint64, api.Errno) {
	if bits < 1 || bits > 64 {
		return 0, api.ErrRange
	}
	x, least, above := big.NewInt(n), new(big.Int), power(2, bits)
	if signed {
		least, above = new(big.Int).Neg(power(2, bits-1)), power(2, bits-1)
	}
	if x.Cmp(least) < 0 || x.Cmp(above) >= 0 {
		return 0, api.ErrRange
	}
	if n < 0 {
		x.Add(x, power(2, bits))
	}
	return x.Uint64(), api.OK
}

// wantWiden is Widen by the definition.
func wantWiden(n uint64, bits int, signed bool) (int64, api.Errno) {
	if bits < 1 || bits > 64 || unsigned(n).Cmp(power(2, bits)) >= 0 {
		return 0, api.ErrRange
	}
	x := unsigned(n)
	if signed && x.Cmp(power(2, bits-1)) >= 0 {
		x.Sub(x, power(2, bits))
	}
	if !x.IsInt64() {
		return 0, api.ErrRange
	}
	return x.Int64(), api.OK
}

// checkFit checks Fit and Widen, and that each is the inverse of the other.
func checkFit(t *testing.T, n uint64, bits int, signed bool) {
	t.Helper()
	wide := int64(n)
	written, e := ints.Fit(wide, bits, signed)
	if want, wantE := wantFit(wide, bits, signed); written != want || e != wantE {
		t.Errorf("Fit(%d, %d, %t) is %d, %d, not %d, %d", wide, bits, signed, written, e, want, wantE)
	}
	if e == api.OK {
		if back, e := ints.Widen(written, bits, signed); back != wide || e != api.OK {
			t.Errorf("Widen of Fit(%d, %d, %t) is %d, %d", wide, bits, signed, back, e)
		}
	}
	read, e := ints.Widen(n, bits, signed)
	if want, wantE := wantWiden(n, bits, signed); read != want || e != wantE {
		t.Errorf("Widen(%d, %d, %t) is %d, %d, not %d, %d", n, bits, signed, read, e, want, wantE)
	}
	if e == api.OK {
		if back, e := ints.Fit(read, bits, signed); back != n || e != api.OK {
			t.Errorf("Fit of Widen(%d, %d, %t) is %d, %d", n, bits, signed, back, e)
		}
	}
}

// P2.4 and P2.7: each number in each number of bits, with and without a sign.
func TestFitAll(t *testing.T) {
	for _, n := range numbers() {
		for bits := 1; bits <= 64; bits++ {
			checkFit(t, n, bits, true)
			checkFit(t, n, bits, false)
		}
		for _, bits := range strangeBits {
			checkFit(t, n, bits, true)
			checkFit(t, n, bits, false)
		}
	}
	for n := -600; n <= 600; n++ {
		for bits := 1; bits <= 12; bits++ {
			checkFit(t, uint64(n), bits, true)
			checkFit(t, uint64(n), bits, false)
		}
	}
}

// The examples of P2.4, and its greatest numbers.
func TestFitExamples(t *testing.T) {
	for _, x := range []struct {
		n      int64
		bits   int
		signed bool
		want   uint64
		e      api.Errno
	}{
		{-1, 8, true, 255, api.OK},
		{128, 8, true, 0, api.ErrRange},
		{255, 8, false, 255, api.OK},
		{-1, 8, false, 0, api.ErrRange},
		{-1, 64, false, 0, api.ErrRange},
		{-1, 64, true, math.MaxUint64, api.OK},
		{-1, 1, true, 1, api.OK},
		{1, 1, true, 0, api.ErrRange},
		{1, 1, false, 1, api.OK},
		{math.MinInt64, 64, true, 1 << 63, api.OK},
		{math.MinInt64, 63, true, 0, api.ErrRange},
		{math.MaxInt64, 63, false, math.MaxInt64, api.OK},
	} {
		if n, e := ints.Fit(x.n, x.bits, x.signed); n != x.want || e != x.e {
			t.Errorf("Fit(%d, %d, %t) is %d, %d", x.n, x.bits, x.signed, n, e)
		}
	}
	for _, x := range []struct {
		n      uint64
		bits   int
		signed bool
		want   int64
		e      api.Errno
	}{
		{255, 8, true, -1, api.OK},
		{255, 8, false, 255, api.OK},
		{256, 8, true, 0, api.ErrRange},
		{256, 8, false, 0, api.ErrRange},
		{1 << 63, 64, false, 0, api.ErrRange},
		{1 << 63, 64, true, math.MinInt64, api.OK},
		{math.MaxUint64, 64, true, -1, api.OK},
		{math.MaxUint64, 63, true, 0, api.ErrRange},
	} {
		if n, e := ints.Widen(x.n, x.bits, x.signed); n != x.want || e != x.e {
			t.Errorf("Widen(%d, %d, %t) is %d, %d", x.n, x.bits, x.signed, n, e)
		}
	}
}

// wantTurn is Turn by the definition: the bit at i comes to i + k, counted round.
func wantTurn(n uint64, bits, k int) (uint64, api.Errno) {
	if bits < 1 || bits > 64 || unsigned(n).Cmp(power(2, bits)) >= 0 {
		return 0, api.ErrRange
	}
	turned := new(big.Int)
	for i := range bits {
		to := new(big.Int).Add(big.NewInt(int64(i)), big.NewInt(int64(k)))
		to.Mod(to, big.NewInt(int64(bits)))
		turned.SetBit(turned, int(to.Int64()), uint(n>>i&1))
	}
	return turned.Uint64(), api.OK
}

func checkTurn(t *testing.T, n uint64, bits, k int) {
	t.Helper()
	got, e := ints.Turn(n, bits, k)
	if want, wantE := wantTurn(n, bits, k); got != want || e != wantE {
		t.Fatalf("Turn(%d, %d, %d) is %d, %d, not %d, %d", n, bits, k, got, e, want, wantE)
	}
}

// P2.5: all numbers of few bits, turned by all places, and others by some.
func TestTurn(t *testing.T) {
	for bits := 1; bits <= 8; bits++ {
		for n := range uint64(300) {
			for k := -20; k <= 20; k++ {
				checkTurn(t, n, bits, k)
			}
		}
	}
	far := []int{math.MinInt, math.MinInt + 1, -1000, -65, -64, -63, -1, 0, 1, 31, 63, 64, 65, 1000, math.MaxInt - 1, math.MaxInt}
	for _, n := range []uint64{0, 1, 6, 1<<31 | 5, 1 << 32, 1<<62 | 3, 1 << 63, 0x0102030405060708, 0xfedcba9876543210, math.MaxUint64} {
		for bits := 1; bits <= 64; bits++ {
			for _, k := range far {
				checkTurn(t, n, bits, k)
			}
		}
		for _, bits := range strangeBits {
			checkTurn(t, n, bits, 1)
		}
	}
	for k, want := range map[int]uint64{1: 5, -1: 3, 4: 5} {
		if n, e := ints.Turn(6, 3, k); n != want || e != api.OK {
			t.Errorf("Turn of 6 in 3 by %d is %d, %d", k, n, e)
		}
	}
}

// P2.9: turns add up, and the opposite one turns back.
func TestTurnSums(t *testing.T) {
	places := []int{math.MinInt / 2, -1000, -64, -63, -7, -1, 0, 1, 2, 5, 33, 64, 65, 1000, math.MaxInt / 2}
	for _, bits := range []int{1, 2, 3, 7, 8, 31, 32, 33, 63, 64} {
		n := uint64(0xfedcba9876543217) >> (64 - bits)
		for _, j := range places {
			once, e := ints.Turn(n, bits, j)
			if back, e2 := ints.Turn(once, bits, -j); back != n || e != api.OK || e2 != api.OK {
				t.Errorf("Turn(%d, %d) by %d and back is %d, %d, %d", n, bits, j, back, e, e2)
			}
			for _, k := range places {
				twice, e := ints.Turn(once, bits, k)
				if both, e2 := ints.Turn(n, bits, j+k); twice != both || e != api.OK || e2 != api.OK {
					t.Errorf("Turn(%d, %d) by %d and %d is %d, not %d", n, bits, j, k, twice, both)
				}
			}
		}
	}
}

// isField says whether there are such bits, by the promise.
func isField(at, many int) bool { return at >= 0 && at <= 63 && many >= 1 && many <= 64-at }

// wantField is Field by the definition.
func wantField(n uint64, at, many int) (uint64, api.Errno) {
	if !isField(at, many) {
		return 0, api.ErrRange
	}
	x := new(big.Int).Div(unsigned(n), power(2, at))
	return x.Mod(x, power(2, many)).Uint64(), api.OK
}

// wantWith is With by the definition, bit by bit.
func wantWith(n uint64, at, many int, v uint64) (uint64, api.Errno) {
	if !isField(at, many) || unsigned(v).Cmp(power(2, many)) >= 0 {
		return 0, api.ErrRange
	}
	x := unsigned(n)
	for i := range many {
		x.SetBit(x, at+i, uint(v>>i&1))
	}
	return x.Uint64(), api.OK
}

// checkField checks Field and With, and that Field after With is what was put there (P2.9).
func checkField(t *testing.T, n uint64, at, many int, v uint64) {
	t.Helper()
	got, e := ints.Field(n, at, many)
	if want, wantE := wantField(n, at, many); got != want || e != wantE {
		t.Fatalf("Field(%d, %d, %d) is %d, %d, not %d, %d", n, at, many, got, e, want, wantE)
	}
	if e == api.OK {
		if same, e := ints.With(n, at, many, got); same != n || e != api.OK {
			t.Fatalf("With(%d, %d, %d) of its own field is %d, %d", n, at, many, same, e)
		}
	}
	with, e := ints.With(n, at, many, v)
	if want, wantE := wantWith(n, at, many, v); with != want || e != wantE {
		t.Fatalf("With(%d, %d, %d, %d) is %d, %d, not %d, %d", n, at, many, v, with, e, want, wantE)
	}
	if e != api.OK {
		return
	}
	if back, e := ints.Field(with, at, many); back != v || e != api.OK {
		t.Fatalf("Field after With(%d, %d, %d, %d) is %d, %d", n, at, many, v, back, e)
	}
}

// P2.5 and P2.9: all fields of numbers, and those that there are not.
func TestFields(t *testing.T) {
	strange := []int{math.MinInt, math.MinInt + 1, math.MaxInt - 1, math.MaxInt}
	for _, n := range []uint64{0, 1, 180, 1 << 63, 0x0102030405060708, 0xfedcba9876543210, math.MaxUint64} {
		for at := -2; at <= 66; at++ {
			for many := -2; many <= 66; many++ {
				checkField(t, n, at, many, 0)
				checkField(t, n, at, many, 1)
				checkField(t, n, at, many, 0x5a5a5a5a5a5a5a5a>>(64-max(0, min(many, 64))))
				checkField(t, n, at, many, 1<<max(0, many)-1)
				checkField(t, n, at, many, 1<<max(0, many))
				checkField(t, n, at, many, math.MaxUint64)
			}
			for _, many := range strange {
				checkField(t, n, at, many, 1)
				checkField(t, n, many, at, 1)
			}
		}
		for _, at := range strange {
			for _, many := range strange {
				checkField(t, n, at, many, 0)
			}
		}
	}
	if n, e := ints.Field(180, 2, 4); n != 13 || e != api.OK {
		t.Errorf("Field of 180, 2, 4 is %d, %d", n, e)
	}
	if n, e := ints.With(180, 2, 4, 1); n != 132 || e != api.OK {
		t.Errorf("With of 180, 2, 4, 1 is %d, %d", n, e)
	}
	if n, e := ints.With(180, 2, 4, 16); n != 0 || e != api.ErrRange {
		t.Errorf("With of 180, 2, 4, 16 is %d, %d", n, e)
	}
}
