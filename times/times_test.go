package times_test

import (
	"math"
	"math/big"
	"slices"
	"testing"

	"groundling/api"
	"groundling/times"
)

// source makes numbers that are the same in each run.
type source uint64

func (s *source) next() uint64 {
	*s ^= *s << 13
	*s ^= *s >> 7
	*s ^= *s << 17
	return uint64(*s)
}

func (s *source) below(n int) int { return int(s.next() % uint64(n)) }

// instants are times around the powers of 2, around whole days, and at both ends.
func instants() []int64 {
	l := []int64{0, 1, 2, 3, 5, 7, 12, 59, 60, 61, 3599, 3600, 3601, 86399, 86400, 86401, 93784, math.MaxInt64 - 86400, math.MaxInt64 / 86400 * 86400, math.MaxInt64 - 1, math.MaxInt64}
	for k := 2; k < 63; k++ {
		l = append(l, 1<<k-1, 1<<k, 1<<k+1)
	}
	slices.Sort(l)
	return slices.Compact(l)
}

// noTimes are numbers that are no times.
var noTimes = []int64{-1, -2, -60, -86400, math.MinInt32, math.MinInt64 + 1, math.MinInt64}

// deadline is the deadline from t on in d by the definition.
func deadline(t, d int64) int64 {
	sum := new(big.Int).Add(big.NewInt(t), big.NewInt(d))
	if sum.Cmp(big.NewInt(math.MaxInt64)) > 0 {
		return math.MaxInt64
	}
	return sum.Int64()
}

// add is Add of times.
func add(t *testing.T, a, b int64) int64 {
	t.Helper()
	sum, e := times.Add(a, b)
	if e != api.OK {
		t.Fatalf("Add(%d, %d) is %d, %d", a, b, sum, e)
	}
	return sum
}

// P5.1: Add, Passed, Left and Advance of all pairs of times.
func TestTimes(t *testing.T) {
	for _, a := range instants() {
		for _, b := range instants() {
			if sum, e := times.Add(a, b); sum != deadline(a, b) || e != api.OK {
				t.Errorf("Add(%d, %d) is %d, %d", a, b, sum, e)
			}
			if passed, e := times.Passed(a, b); passed != !(a > b) || e != api.OK {
				t.Errorf("Passed(%d, %d) is %v, %d", a, b, passed, e)
			}
			want := int64(0)
			if a > b {
				want = a - b
			}
			if left, e := times.Left(a, b); left != want || e != api.OK {
				t.Errorf("Left(%d, %d) is %d, %d", a, b, left, e)
			}
			to, e := times.Advance(a, b)
			if b < a && (to != 0 || e != api.ErrPast) || b >= a && (to != b || e != api.OK) {
				t.Errorf("Advance(%d, %d) is %d, %d", a, b, to, e)
			}
		}
	}
}

// checkNoTimes checks that functions of two times return ErrRange for a and b.
func checkNoTimes(t *testing.T, a, b int64) {
	t.Helper()
	if sum, e := times.Add(a, b); sum != 0 || e != api.ErrRange {
		t.Errorf("Add(%d, %d) is %d, %d", a, b, sum, e)
	}
	if passed, e := times.Passed(a, b); passed || e != api.ErrRange {
		t.Errorf("Passed(%d, %d) is %v, %d", a, b, passed, e)
	}
	if left, e := times.Left(a, b); left != 0 || e != api.ErrRange {
		t.Errorf("Left(%d, %d) is %d, %d", a, b, left, e)
	}
	if to, e := times.Advance(a, b); to != 0 || e != api.ErrRange {
		t.Errorf("Advance(%d, %d) is %d, %d", a, b, to, e)
	}
}

// All functions with times return ErrRange if one is below 0, the one or the other; so does Advance to a time before now.
func TestNoTimes(t *testing.T) {
	for _, n := range noTimes {
		for _, a := range instants() {
			checkNoTimes(t, n, a)
			checkNoTimes(t, a, n)
		}
		for _, m := range noTimes {
			checkNoTimes(t, n, m)
		}
	}
}

// P5.5: Add is at least both, grows with both, and can be done in parts; a deadline in more than 0 is not passed before MaxTime.
func TestDeadlines(t *testing.T) {
	all := instants()
	for _, now := range all {
		before := int64(0)
		for _, d := range all {
			sum := add(t, now, d)
			if sum < now || sum < d || sum < before || sum != add(t, d, now) {
				t.Errorf("Add(%d, %d) is %d, the one before %d", now, d, sum, before)
			}
			before = sum
			for _, more := range []int64{0, 1, 59, 1 << 40, math.MaxInt64 - 1, math.MaxInt64} {
				if add(t, sum, more) != add(t, now, add(t, d, more)) {
					t.Errorf("Add of %d, %d and %d depends on the order", now, d, more)
				}
			}
			passed, e := times.Passed(sum, now)
			if e != api.OK || passed != (d == 0 || now == math.MaxInt64) {
				t.Errorf("at %d, the deadline in %d: Passed is %v, %d", now, d, passed, e)
			}
		}
	}
}

// P5.6: as time advances, a deadline is passed from the first step on that is not before it; then alone nothing is left of it.
func TestTicks(t *testing.T) {
	s := source(1)
	for range 500 {
		now := int64(0)
		if s.below(2) == 0 {
			now = math.MaxInt64 - int64(s.below(60))
		}
		due := add(t, now, int64(s.below(50)))
		for range 40 {
			passed, e := times.Passed(due, now)
			left, e2 := times.Left(due, now)
			if e != api.OK || e2 != api.OK || passed != (now >= due) || passed != (left == 0) || add(t, now, left) != max(due, now) {
				t.Fatalf("at %d, deadline %d: Passed is %v, %d, Left %d, %d", now, due, passed, e, left, e2)
			}
			next, e := times.Advance(now, add(t, now, int64(s.below(4))))
			if next < now || e != api.OK {
				t.Fatalf("Advance from %d is %d, %d", now, next, e)
			}
			now = next
		}
	}
}

// The examples.
func TestTimesExamples(t *testing.T) {
	for _, c := range []struct {
		t, d, want int64
		e          api.Errno
	}{{5, 7, 12, api.OK}, {api.MaxTime, 1, api.MaxTime, api.OK}, {-1, 1, 0, api.ErrRange}} {
		if sum, e := times.Add(c.t, c.d); sum != c.want || e != c.e {
			t.Errorf("Add(%d, %d) is %d, %d", c.t, c.d, sum, e)
		}
	}
	for now, want := range map[int64]bool{9: false, 10: true} {
		if passed, e := times.Passed(10, now); passed != want || e != api.OK {
			t.Errorf("Passed(10, %d) is %v, %d", now, passed, e)
		}
	}
	for now, want := range map[int64]int64{7: 3, 11: 0} {
		if left, e := times.Left(10, now); left != want || e != api.OK {
			t.Errorf("Left(10, %d) is %d, %d", now, left, e)
		}
	}
	if to, e := times.Advance(5, 5); to != 5 || e != api.OK {
		t.Errorf("Advance(5, 5) is %d, %d", to, e)
	}
	if to, e := times.Advance(5, 4); to != 0 || e != api.ErrPast {
		t.Errorf("Advance(5, 4) is %d, %d", to, e)
	}
}
