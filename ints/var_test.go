package ints_test

import (
	"bytes"
	"math"
	"math/big"
	"slices"
	"testing"

	"groundling/api"
	"groundling/ints"
)

// wantVar is n in variable length by the definition: its digits to the base 128, the lowest one first.
func wantVar(n uint64) []byte {
	left, base := unsigned(n), big.NewInt(128)
	var b []byte
	for {
		digit := new(big.Int)
		left.DivMod(left, base, digit)
		if left.Sign() == 0 {
			return append(b, byte(digit.Int64()))
		}
		b = append(b, byte(digit.Int64()+128))
	}
}

// wantGetVar is GetVar as the promise says it, one error after the other.
func wantGetVar(b []byte) (uint64, []byte, api.Errno) {
	last := slices.IndexFunc(b, func(c byte) bool { return c < 128 })
	nine := len(b) >= 10 && (last < 0 || last >= 9)
	switch {
	case last < 0 && len(b) < 10:
		return 0, nil, api.ErrMore
	case nine && b[9] > 1:
		return 0, nil, api.ErrRange
	case b[last] == 0 && last > 0:
		return 0, nil, api.ErrForm
	}
	n := new(big.Int)
	for i := last; i >= 0; i-- {
		n.Mul(n, big.NewInt(128))
		n.Add(n, big.NewInt(int64(b[i]%128)))
	}
	return n.Uint64(), b[last+1:], api.OK
}

// checkGetVar checks GetVar, and that what it accepts is what PutVar writes.
func checkGetVar(t *testing.T, b []byte) {
	t.Helper()
	before := slices.Clone(b)
	n, rest, e := ints.GetVar(b)
	want, wantRest, wantE := wantGetVar(b)
	if n != want || !bytes.Equal(rest, wantRest) || e != wantE {
		t.Fatalf("GetVar(%v) is %d, %v, %d, not %d, %v, %d", b, n, rest, e, want, wantRest, wantE)
	}
	if !bytes.Equal(b, before) {
		t.Fatalf("GetVar changes %v", before)
	}
	if e == api.OK && !bytes.Equal(append(ints.PutVar(nil, n), rest...), b) {
		t.Fatalf("PutVar(%d) is not what was read of %v", n, b)
	}
}

// P2.2 and P2.7: the bytes of each number, and the number of these.
func TestPutVar(t *testing.T) {
	for _, n := range numbers() {
		want := wantVar(n)
		for _, before := range [][]byte{nil, {}, {0}, {128, 255, 1, 2, 3, 4, 5, 6, 7, 8, 9, 10}} {
			if b := ints.PutVar(before, n); !bytes.Equal(b, slices.Concat(before, want)) {
				t.Errorf("PutVar(%v, %d) is %v, not %v", before, n, b, want)
			}
		}
		for _, after := range [][]byte{nil, {0}, {255, 255}, {1, 128, 0}} {
			b := slices.Concat(want, after)
			if got, rest, e := ints.GetVar(b); got != n || !bytes.Equal(rest, after) || e != api.OK {
				t.Errorf("GetVar(%v) is %d, %v, %d, not %d", b, got, rest, e, n)
			}
			checkGetVar(t, b)
		}
		for size := range want {
			checkGetVar(t, want[:size])
		}
	}
	for n := range uint64(1 << 15) {
		if b := ints.PutVar(nil, n); !bytes.Equal(b, wantVar(n)) {
			t.Fatalf("PutVar(%d) is %v, not %v", n, b, wantVar(n))
		}
	}
	if n := len(ints.PutVar(nil, math.MaxUint64)); n != api.MaxVar {
		t.Errorf("the greatest number has %d bytes", n)
	}
}

// P2.2 and P2.7: all strings of up to two bytes, and all longer ones of some bytes.
func TestGetVarShort(t *testing.T) {
	checkGetVar(t, nil)
	checkGetVar(t, []byte{})
	for first := range 256 {
		checkGetVar(t, []byte{byte(first)})
		for second := range 256 {
			checkGetVar(t, []byte{byte(first), byte(second)})
			checkGetVar(t, []byte{byte(first), 128, byte(second)})
		}
	}
	telling := []byte{0, 1, 127, 128, 129, 255}
	level := [][]byte{nil}
	for range 6 {
		var next [][]byte
		for _, b := range level {
			for _, c := range telling {
				next = append(next, append(slices.Clone(b), c))
			}
		}
		for _, b := range next {
			checkGetVar(t, b)
		}
		level = next
	}
}

// P2.2: what there may be around the tenth byte, after bytes of 128 and more.
func TestGetVarLong(t *testing.T) {
	for size := 7; size <= 12; size++ {
		for _, digit := range []byte{128, 129, 200, 255} {
			b := bytes.Repeat([]byte{digit}, size)
			checkGetVar(t, b)
			for c := range 256 {
				checkGetVar(t, append(slices.Clone(b), byte(c)))
				checkGetVar(t, append(slices.Clone(b), byte(c), 0))
				checkGetVar(t, append(slices.Clone(b), byte(c), 1, 2))
			}
		}
	}
	checkGetVar(t, bytes.Repeat([]byte{128}, 100_000))
	checkGetVar(t, append(bytes.Repeat([]byte{255}, 100_000), 1))
}

// P2.8: a number with fewer bytes is less than one with more.
func TestVarOrder(t *testing.T) {
	size := 1
	for _, n := range numbers() {
		now := len(ints.PutVar(nil, n))
		if now < size {
			t.Errorf("%d has %d bytes, and a number below it %d", n, now, size)
		}
		size = now
	}
}

// The examples of P2.2.
func TestVarExamples(t *testing.T) {
	for n, want := range map[uint64][]byte{0: {0}, 127: {127}, 128: {128, 1}, 300: {172, 2}} {
		if b := ints.PutVar(nil, n); !bytes.Equal(b, want) {
			t.Errorf("PutVar of %d is %v", n, b)
		}
	}
	nines := bytes.Repeat([]byte{255}, 9)
	for _, x := range []struct {
		b, rest []byte
		n       uint64
		e       api.Errno
	}{
		{b: []byte{172, 2, 9}, n: 300, rest: []byte{9}},
		{b: []byte{172}, e: api.ErrMore},
		{b: []byte{128, 0}, e: api.ErrForm},
		{b: append(slices.Clone(nines), 1), n: math.MaxUint64},
		{b: append(slices.Clone(nines), 2), e: api.ErrRange},
		{b: nines, e: api.ErrMore},
		{b: append(slices.Clone(nines), 0), e: api.ErrForm},
		{b: append(slices.Clone(nines), 128), e: api.ErrRange},
		{b: append(slices.Clone(nines), 128, 0), e: api.ErrRange},
		{b: []byte{0, 0}, rest: []byte{0}},
	} {
		if n, rest, e := ints.GetVar(x.b); n != x.n || !bytes.Equal(rest, x.rest) || e != x.e {
			t.Errorf("GetVar(%v) is %d, %v, %d", x.b, n, rest, e)
		}
	}
}
