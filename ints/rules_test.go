package ints_test

import (
	"bytes"
	"math"
	"slices"
	"testing"

	"groundling/api"
	"groundling/ints"
)

// P1, P2.10: all combinations of numbers at the limits are accepted, with no value beside an error, and lead to the same again.
func TestAnyArguments(t *testing.T) {
	whole := []int{math.MinInt, math.MinInt + 1, -65, -64, -63, -1, 0, 1, 7, 8, 9, 62, 63, 64, 65, math.MaxInt - 1, math.MaxInt}
	for _, n := range []uint64{0, 1, 255, 256, math.MaxInt64, 1 << 63, math.MaxUint64} {
		for _, a := range whole {
			b, e := ints.Put(nil, n, a)
			if again, e2 := ints.Put(nil, n, a); !bytes.Equal(b, again) || e != e2 || e != api.OK && len(b) > 0 {
				t.Errorf("Put(%d, %d) is %v, %d", n, a, b, e)
			}
			for _, signed := range []bool{false, true} {
				if fit, e := ints.Fit(int64(n), a, signed); e != api.OK && fit != 0 {
					t.Errorf("Fit(%d, %d) is %d, %d", n, a, fit, e)
				}
				if wide, e := ints.Widen(n, a, signed); e != api.OK && wide != 0 {
					t.Errorf("Widen(%d, %d) is %d, %d", n, a, wide, e)
				}
			}
			if ints.Shift(int64(n), a) != ints.Shift(int64(n), a) {
				t.Errorf("Shift(%d, %d) differs", n, a)
			}
			for _, k := range whole {
				turned, e := ints.Turn(n, a, k)
				field, e2 := ints.Field(n, a, k)
				with, e3 := ints.With(n, a, k, 1)
				if e != api.OK && turned != 0 || e2 != api.OK && field != 0 || e3 != api.OK && with != 0 {
					t.Errorf("with %d, %d, %d: %d, %d; %d, %d; %d, %d", n, a, k, turned, e, field, e2, with, e3)
				}
			}
		}
	}
}

// P2.10, R3: Put and PutVar write to new memory, also if there is room after b; what is written to their results is not in b, and not in each other.
func TestFreshMemory(t *testing.T) {
	room := bytes.Repeat([]byte{7}, 40)
	for _, size := range []int{0, 1, 5, 30} {
		b := room[:size]
		first, _ := ints.Put(b, 0x0102030405060708, 8)
		second, _ := ints.Put(b, 0x1112131415161718, 8)
		third := ints.PutVar(b, math.MaxUint64)
		fourth := ints.PutVar(b, 1)
		want := slices.Clone(second)
		for _, l := range [][]byte{first, third, fourth} {
			l = l[:cap(l)]
			for i := range l {
				l[i] = 99
			}
		}
		if !bytes.Equal(second, want) {
			t.Errorf("results share memory: %v is not %v", second, want)
		}
		if !bytes.Equal(room, bytes.Repeat([]byte{7}, 40)) {
			t.Fatalf("what is after %d bytes is changed: %v", size, room)
		}
	}
}

// P2.10: Get leaves its bytes as they are.
func TestGetKeeps(t *testing.T) {
	b := []byte{200, 1, 2, 3, 4, 5, 6, 7, 8, 9}
	before := slices.Clone(b)
	for width := range 12 {
		ints.Get(b, width)
	}
	if !bytes.Equal(b, before) {
		t.Errorf("Get changes %v to %v", before, b)
	}
}
