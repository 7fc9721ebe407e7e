package times_test

import (
	"math"
	"slices"
	"testing"

	"groundling/api"
	"groundling/times"
)

// P1, P5.8: functions accept any arguments, with no value beside an error, and return the same again.
func TestAnyArguments(t *testing.T) {
	numbers := []int64{math.MinInt64, math.MinInt64 + 1, -86400, -1, 0, 1, 5, 86400, math.MaxInt64 - 1, math.MaxInt64}
	var pairs spans
	for _, a := range numbers {
		for _, b := range numbers {
			pairs = append(pairs, api.TmSpan{From: a, To: b})
		}
	}
	for _, a := range pairs {
		for _, b := range pairs {
			s, some, e := times.Meet(a, b)
			if (e != api.OK || !some) && s != (api.TmSpan{}) || e != api.OK && some {
				t.Errorf("Meet(%v, %v) is %v, %v, %d", a, b, s, some, e)
			}
			for _, l := range []spans{{a}, {a, b}, {a, b, a}, nil} {
				all, e := times.Union(l)
				left, e2 := times.Minus(l, spans{b})
				n, e3 := times.Total(l)
				if e != api.OK && len(all) > 0 || e2 != api.OK && len(left) > 0 || e3 != e || e3 != api.OK && n != 0 {
					t.Errorf("of %v and %v Union is %v, %d, Minus %v, %d, Total %d, %d", l, b, all, e, left, e2, n, e3)
				}
				again, _ := times.Union(l)
				leftAgain, _ := times.Minus(l, spans{b})
				if !slices.Equal(all, again) || !slices.Equal(left, leftAgain) {
					t.Errorf("Union(%v) or Minus(%v, %v) differs", l, l, b)
				}
			}
		}
	}
}

// R6: calls at the same time do not touch each other, even with the same arguments.
func TestCallsAtOnce(t *testing.T) {
	a, b := spans{{From: 7, To: 9}, {From: 0, To: 3}, {From: 2, To: 5}}, spans{{From: 8, To: 20}, {From: 1, To: 2}}
	done := make(chan bool)
	for i := range 8 {
		go func() {
			ok := true
			for n := int64(i); n < 2000; n++ {
				all, e := times.Union(a)
				left, e2 := times.Minus(a, b)
				total, e3 := times.Total(left)
				text, e4 := times.Print(n)
				again, e5 := times.Parse(text)
				ok = ok && slices.Equal(all, spans{{From: 0, To: 5}, {From: 7, To: 9}}) && slices.Equal(left, spans{{From: 0, To: 1}, {From: 2, To: 5}, {From: 7, To: 8}}) && total == 5 && again == n && e+e2+e3+e4+e5 == api.OK
			}
			done <- ok
		}()
	}
	for range 8 {
		if !<-done {
			t.Error("a call at the same time as others has another result")
		}
	}
}
