package ints_test

import (
	"bytes"
	"math"
	"math/big"
	"slices"
	"testing"

	"groundling/api"
	"groundling/ints"
)

// numbers are those around all powers of 2 and of 10, with some that have many different bytes; the int64 with these bits are as telling.
func numbers() []uint64 {
	l := []uint64{180, 258, 300, 0x0102030405060708, 0xfedcba9876543210, 0x8000000080000000, 0x00ff00ff00ff00ff, 3037000499, 3037000500}
	ten := uint64(1)
	for k := range 64 {
		two := uint64(1) << k
		l = append(l, two-1, two, two+1, -two, -two-1, -two+1)
		if k < 20 {
			l = append(l, ten-1, ten, ten+1)
			ten *= 10
		}
	}
	slices.Sort(l)
	return slices.Compact(l)
}

// power is base to the power of n.
func power(base, n int) *big.Int {
	return new(big.Int).Exp(big.NewInt(int64(base)), big.NewInt(int64(n)), nil)
}

func unsigned(n uint64) *big.Int { return new(big.Int).SetUint64(n) }

// wantPut is the bytes of n by the definition.
func wantPut(n uint64, width int) ([]byte, api.Errno) {
	if width < 1 || width > 8 || unsigned(n).Cmp(power(256, width)) >= 0 {
		return nil, api.ErrRange
	}
	return unsigned(n).FillBytes(make([]byte, width)), api.OK
}

// strangeWidths are those that are none.
var strangeWidths = []int{math.MinInt, -8, -1, 0, 9, 16, 64, math.MaxInt}

func checkPut(t *testing.T, n uint64, width int) {
	t.Helper()
	want, wantE := wantPut(n, width)
	for _, before := range [][]byte{nil, {}, {7}, {0, 255, 128, 1, 2, 3, 4, 5, 6}} {
		b, e := ints.Put(before, n, width)
		if e != wantE {
			t.Fatalf("Put(%d, %d) is %v, %d, not %d", n, width, b, e, wantE)
		}
		if e != api.OK && len(b) > 0 || e == api.OK && !bytes.Equal(b, slices.Concat(before, want)) {
			t.Fatalf("Put(%v, %d, %d) is %v, %d, not %v", before, n, width, b, e, want)
		}
	}
}

// P2.1 and P2.7: each number in each width, and read back.
func TestPut(t *testing.T) {
	for _, n := range numbers() {
		for width := 1; width <= 8; width++ {
			checkPut(t, n, width)
			b, e := ints.Put(nil, n, width)
			if e != api.OK {
				continue
			}
			if got, rest, e := ints.Get(b, width); got != n || len(rest) > 0 || e != api.OK {
				t.Errorf("Get(%v) is %d, %v, %d", b, got, rest, e)
			}
		}
		for _, width := range strangeWidths {
			checkPut(t, n, width)
		}
	}
	for n := range uint64(1 << 16) {
		checkPut(t, n, 1)
		checkPut(t, n, 2)
	}
}

// P2.1: Get reads the first bytes, leaves the others, and needs as many as the width; a width that is none is found first.
func TestGet(t *testing.T) {
	b := []byte{254, 0, 3, 127, 128, 255, 9, 1, 77, 88, 99}
	for size := range len(b) + 1 {
		for width := 1; width <= 8; width++ {
			n, rest, e := ints.Get(b[:size], width)
			if size < width {
				if n != 0 || len(rest) > 0 || e != api.ErrMore {
					t.Errorf("Get(%v, %d) is %d, %v, %d", b[:size], width, n, rest, e)
				}
				continue
			}
			if want := new(big.Int).SetBytes(b[:width]).Uint64(); n != want || !bytes.Equal(rest, b[width:size]) || e != api.OK {
				t.Errorf("Get(%v, %d) is %d, %v, %d, not %d", b[:size], width, n, rest, e, want)
			}
		}
		for _, width := range strangeWidths {
			if n, rest, e := ints.Get(b[:size], width); n != 0 || len(rest) > 0 || e != api.ErrRange {
				t.Errorf("Get(%v, %d) is %d, %v, %d", b[:size], width, n, rest, e)
			}
		}
	}
	if n, rest, e := ints.Get(nil, 1); n != 0 || len(rest) > 0 || e != api.ErrMore {
		t.Errorf("Get of nothing is %d, %v, %d", n, rest, e)
	}
}

// P2.7: what Get accepts is what Put writes.
func TestGetPut(t *testing.T) {
	for high := range 256 {
		for low := range 256 {
			b := []byte{byte(high), byte(low)}
			n, rest, e := ints.Get(b, 2)
			if n != uint64(high*256+low) || len(rest) > 0 || e != api.OK {
				t.Fatalf("Get(%v) is %d, %v, %d", b, n, rest, e)
			}
			if again, e := ints.Put(nil, n, 2); !bytes.Equal(again, b) || e != api.OK {
				t.Fatalf("Put(%d) is %v, %d, not %v", n, again, e, b)
			}
		}
	}
	for _, n := range numbers() {
		for width := 1; width <= 8; width++ {
			b, _ := ints.Put(nil, n, 8)
			got, rest, e := ints.Get(b, width)
			again, e2 := ints.Put(nil, got, width)
			if e != api.OK || e2 != api.OK || !bytes.Equal(append(again, rest...), b) {
				t.Errorf("Put(%d, %d) of Get(%v) is %v, %d, %d", got, width, b, again, e, e2)
			}
		}
	}
}

// P2.8: bytes of one width are ordered as their numbers are.
func TestPutOrder(t *testing.T) {
	l := numbers()
	for width := 1; width <= 8; width++ {
		var before []byte
		for _, n := range l {
			b, e := ints.Put(nil, n, width)
			if e != api.OK {
				break
			}
			if before != nil && bytes.Compare(before, b) >= 0 {
				t.Errorf("%v, of a number below %d, is not below %v", before, n, b)
			}
			before = b
		}
	}
}

// The examples of P2.1.
func TestPutExamples(t *testing.T) {
	for width, want := range map[int][]byte{2: {1, 2}, 4: {0, 0, 1, 2}} {
		if b, e := ints.Put(nil, 258, width); !bytes.Equal(b, want) || e != api.OK {
			t.Errorf("Put of 258 in %d is %v, %d", width, b, e)
		}
	}
	if b, e := ints.Put([]byte{5}, 258, 1); len(b) > 0 || e != api.ErrRange {
		t.Errorf("Put of 258 in 1 is %v, %d", b, e)
	}
	b := []byte{1, 2, 3}
	if n, rest, e := ints.Get(b, 2); n != 258 || !bytes.Equal(rest, []byte{3}) || e != api.OK {
		t.Errorf("Get 2 is %d, %v, %d", n, rest, e)
	}
	if _, _, e := ints.Get(b, 4); e != api.ErrMore {
		t.Errorf("Get 4 is %d", e)
	}
	if _, _, e := ints.Get(b, 9); e != api.ErrRange {
		t.Errorf("Get 9 is %d", e)
	}
}
