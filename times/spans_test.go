package times_test

import (
	"math"
	"slices"
	"testing"

	"groundling/api"
	"groundling/times"
)

type spans = []api.TmSpan

// grounds are ascending times between which sets are made: each is a small world of its own.
var grounds = [][]int64{
	{0, 1, 2, 3, 4, 5, 6, 7, 8, 9, 10, 11},
	{math.MaxInt64 - 7, math.MaxInt64 - 6, math.MaxInt64 - 5, math.MaxInt64 - 4, math.MaxInt64 - 3, math.MaxInt64 - 2, math.MaxInt64 - 1, math.MaxInt64},
	{0, 1, 1 << 31, 1 << 32, 1 << 62, math.MaxInt64 - 1, math.MaxInt64},
}

// pieces returns for each two times of the ground, which follow each other, whether the times between them are in a span of l.
func pieces(ground []int64, l spans) []bool {
	in := make([]bool, len(ground)-1)
	for i := range in {
		for _, s := range l {
			in[i] = in[i] || s.From <= ground[i] && ground[i] < s.To
		}
	}
	return in
}

// spansOf returns the spans of a set of times by the definition.
func spansOf(ground []int64, in []bool) spans {
	var l spans
	for i := range in {
		if !in[i] {
			continue
		}
		if i == 0 || !in[i-1] {
			l = append(l, api.TmSpan{From: ground[i]})
		}
		l[len(l)-1].To = ground[i+1]
	}
	return l
}

func total(l spans) int64 {
	n := int64(0)
	for _, s := range l {
		n += s.To - s.From
	}
	return n
}

// without returns the times of a that b does not have.
func without(a, b []bool) []bool {
	l := slices.Clone(a)
	for i := range l {
		l[i] = a[i] && !b[i]
	}
	return l
}

// checkUnion checks Union and Total of l, whose times are of the ground.
func checkUnion(t *testing.T, ground []int64, l spans) {
	t.Helper()
	before := slices.Clone(l)
	want := spansOf(ground, pieces(ground, l))
	all, e := times.Union(l)
	if !slices.Equal(all, want) || e != api.OK {
		t.Fatalf("Union(%v) is %v, %d, not %v", l, all, e, want)
	}
	if n, e := times.Total(l); n != total(want) || e != api.OK {
		t.Fatalf("Total(%v) is %d, %d", l, n, e)
	}
	if !slices.Equal(l, before) {
		t.Fatalf("%v has become %v", before, l)
	}
}

// checkMinus checks Minus of a and b, whose times are of the ground.
func checkMinus(t *testing.T, ground []int64, a, b spans) {
	t.Helper()
	aBefore, bBefore := slices.Clone(a), slices.Clone(b)
	want := spansOf(ground, without(pieces(ground, a), pieces(ground, b)))
	if left, e := times.Minus(a, b); !slices.Equal(left, want) || e != api.OK {
		t.Fatalf("Minus(%v, %v) is %v, %d, not %v", a, b, left, e, want)
	}
	if !slices.Equal(a, aBefore) || !slices.Equal(b, bBefore) {
		t.Fatalf("(%v, %v) has become (%v, %v)", aBefore, bBefore, a, b)
	}
}

// spansOn returns all spans with times of the ground.
func spansOn(ground []int64) spans {
	var l spans
	for i, from := range ground {
		for _, to := range ground[i+1:] {
			l = append(l, api.TmSpan{From: from, To: to})
		}
	}
	return l
}

// listsOn returns all lists of at most n spans with times of the ground.
func listsOn(ground []int64, n int) []spans {
	all, last := []spans{nil}, []spans{nil}
	for range n {
		var next []spans
		for _, l := range last {
			for _, s := range spansOn(ground) {
				next = append(next, slices.Concat(l, spans{s}))
			}
		}
		all, last = append(all, next...), next
	}
	return all
}

// some returns at most n spans with times of the ground.
func (s *source) some(ground []int64, n int) spans {
	l := make(spans, s.below(n+1))
	for i := range l {
		from := s.below(len(ground) - 1)
		to := from + 1 + s.below(len(ground)-1-from)
		l[i] = api.TmSpan{From: ground[from], To: ground[to]}
	}
	return l
}

// P5.2: Check of all pairs of numbers; a number below 0 comes before the order.
func TestCheck(t *testing.T) {
	numbers := slices.Concat(noTimes, instants())
	for _, from := range numbers {
		for _, to := range numbers {
			want := api.OK
			if from < 0 || to < 0 {
				want = api.ErrRange
			} else if from >= to {
				want = api.ErrForm
			}
			if e := times.Check(api.TmSpan{From: from, To: to}); e != want {
				t.Errorf("Check of %d to %d is %d, not %d", from, to, e, want)
			}
		}
	}
}

// P5.2: Meet of all spans on the grounds.
func TestMeet(t *testing.T) {
	for _, ground := range grounds {
		for _, a := range spansOn(ground) {
			for _, b := range spansOn(ground) {
				both := slices.Clone(pieces(ground, spans{a}))
				for i, in := range pieces(ground, spans{b}) {
					both[i] = both[i] && in
				}
				want := append(spansOf(ground, both), api.TmSpan{})
				s, some, e := times.Meet(a, b)
				if s != want[0] || some != (len(want) > 1) || e != api.OK {
					t.Errorf("Meet(%v, %v) is %v, %v, %d", a, b, s, some, e)
				}
			}
		}
	}
}

// wrongs are spans that are none, with their errors.
var wrongs = []struct {
	s api.TmSpan
	e api.Errno
}{
	{api.TmSpan{From: -1, To: 5}, api.ErrRange},
	{api.TmSpan{From: 5, To: -1}, api.ErrRange},
	{api.TmSpan{From: -2, To: -1}, api.ErrRange},
	{api.TmSpan{From: math.MinInt64, To: math.MinInt64}, api.ErrRange},
	{api.TmSpan{From: math.MinInt64, To: math.MaxInt64}, api.ErrRange},
	{api.TmSpan{}, api.ErrForm},
	{api.TmSpan{From: 5, To: 4}, api.ErrForm},
	{api.TmSpan{From: 5, To: 5}, api.ErrForm},
	{api.TmSpan{From: math.MaxInt64, To: math.MaxInt64}, api.ErrForm},
	{api.TmSpan{From: math.MaxInt64}, api.ErrForm},
}

// P5.2: Meet returns the error of a, then that of b, also if there is nothing that they would have together.
func TestMeetErrors(t *testing.T) {
	check := func(a, b api.TmSpan, want api.Errno) {
		t.Helper()
		if s, some, e := times.Meet(a, b); s != (api.TmSpan{}) || some || e != want {
			t.Errorf("Meet(%v, %v) is %v, %v, %d, not %d", a, b, s, some, e, want)
		}
	}
	for _, w := range wrongs {
		for _, good := range []api.TmSpan{{From: 0, To: 1}, {From: 3, To: 9}, {From: math.MaxInt64 - 1, To: math.MaxInt64}} {
			check(w.s, good, w.e)
			check(good, w.s, w.e)
		}
		for _, v := range wrongs {
			check(w.s, v.s, w.e)
		}
	}
}

// P5.3 and P5.7: Union and Total of all short lists.
func TestUnionShort(t *testing.T) {
	for _, l := range listsOn(grounds[0][:6], 3) {
		checkUnion(t, grounds[0], l)
	}
	for _, ground := range grounds[1:] {
		for _, l := range listsOn(ground, 2) {
			checkUnion(t, ground, l)
		}
	}
	checkUnion(t, grounds[0], spans{})
}

// P5.3 and P5.7: Minus of all short lists.
func TestMinusShort(t *testing.T) {
	lists := listsOn(grounds[0][:5], 2)
	for _, a := range lists {
		for _, b := range lists {
			checkMinus(t, grounds[0], a, b)
		}
	}
	checkMinus(t, grounds[0], spans{}, spans{{From: 1, To: 2}})
	checkMinus(t, grounds[0], spans{{From: 1, To: 2}}, spans{})
}

// wide is a ground of many times, with and without others between them.
func wide(n int) []int64 {
	ground := make([]int64, n)
	for i := range ground {
		ground[i] = int64(i + i/3)
	}
	return ground
}

// P5.3, P5.7 and P5.8: Union, Minus and Total of longer lists: in any order, again, and together.
func TestSets(t *testing.T) {
	s := source(2)
	for _, ground := range append(slices.Clone(grounds), wide(40), wide(500)) {
		for range 400 {
			n := 1 + s.below(16)
			a, b := s.some(ground, n), s.some(ground, n)
			checkUnion(t, ground, a)
			checkMinus(t, ground, a, b)
			checkMinus(t, ground, a, a)
			all, _ := times.Union(a)
			checkUnion(t, ground, all)
			left, _ := times.Minus(a, b)
			both, _ := times.Minus(a, left)
			whole, _ := times.Total(a)
			part, _ := times.Total(left)
			rest, _ := times.Total(both)
			if part+rest != whole {
				t.Fatalf("%v: %d times are not in %v, %d are, of %d", a, part, b, rest, whole)
			}
			for i := range a {
				j := s.below(i + 1)
				a[i], a[j] = a[j], a[i]
			}
			if again, e := times.Union(a); !slices.Equal(again, all) || e != api.OK {
				t.Fatalf("Union(%v) is %v, %d, in another order %v", a, again, e, all)
			}
		}
	}
}

// row returns n spans that have one time each, with one between them.
func row(n int, first int64) spans {
	l := make(spans, n)
	for i := range l {
		l[i] = api.TmSpan{From: first + 2*int64(i), To: first + 2*int64(i) + 1}
	}
	return l
}

// P5.3: lists have at most 200 spans; what is left may have more.
func TestFullLists(t *testing.T) {
	ground := wide(800)
	for i := range ground {
		ground[i] = int64(i)
	}
	checkUnion(t, ground, row(200, 0))
	checkMinus(t, ground, row(200, 0), row(200, 0))
	checkMinus(t, ground, row(200, 0), row(200, 1))
	checkMinus(t, ground, spans{{From: 0, To: 700}}, row(200, 1))
	wideRow := row(200, 0)
	for i := range wideRow {
		wideRow[i] = api.TmSpan{From: 4 * int64(i), To: 4*int64(i) + 3}
	}
	var holes spans
	for i := range 200 {
		holes = append(holes, api.TmSpan{From: 4*int64(i) + 1, To: 4*int64(i) + 2})
	}
	checkMinus(t, ground, wideRow[:199], holes)
	left, e := times.Minus(wideRow, holes)
	if len(left) != 400 || e != api.OK {
		t.Errorf("%d spans are left, %d", len(left), e)
	}
	s := source(3)
	for range 50 {
		checkUnion(t, ground, s.some(ground, 200))
		checkMinus(t, ground, s.some(ground, 200), s.some(ground, 200))
	}
}

// checkSetErrors checks that Minus of a and b returns the error, and Union and Total do so if b is nil.
func checkSetErrors(t *testing.T, a, b spans, want api.Errno) {
	t.Helper()
	if l, e := times.Minus(a, b); len(l) > 0 || e != want {
		t.Errorf("Minus of %d and %d spans is %v, %d, not %d", len(a), len(b), l, e, want)
	}
	if b != nil {
		return
	}
	if l, e := times.Union(a); len(l) > 0 || e != want {
		t.Errorf("Union of %d spans is %v, %d, not %d", len(a), l, e, want)
	}
	if n, e := times.Total(a); n != 0 || e != want {
		t.Errorf("Total of %d spans is %d, %d, not %d", len(a), n, e, want)
	}
}

// P5.3: a list of more than 200 comes first, then the first span that is none, of a, then of b.
func TestSetErrors(t *testing.T) {
	long := row(201, 0)
	same := make(spans, 1000)
	for i := range same {
		same[i] = api.TmSpan{From: 1, To: 2}
	}
	for _, l := range []spans{long, same, make(spans, 201)} {
		checkSetErrors(t, l, nil, api.ErrLong)
		checkSetErrors(t, nil, l, api.ErrLong)
		checkSetErrors(t, spans{{}}, l, api.ErrLong)
		checkSetErrors(t, l, spans{{}}, api.ErrLong)
		checkSetErrors(t, l, l, api.ErrLong)
	}
	for _, w := range wrongs {
		for _, at := range []int{0, 1, 100, 199} {
			a := row(200, 0)
			a[at] = w.s
			checkSetErrors(t, a, nil, w.e)
			checkSetErrors(t, nil, a, w.e)
			checkSetErrors(t, row(200, 0), a, w.e)
			checkSetErrors(t, a, long, api.ErrLong)
			for _, v := range wrongs {
				b := row(200, 0)
				b[0] = v.s
				checkSetErrors(t, a, b, w.e)
				if at < 199 {
					a[199] = v.s
					checkSetErrors(t, a, nil, w.e)
				}
			}
		}
	}
}

// P5.8: results are new memory, also where they have the spans of the list.
func TestSetMemory(t *testing.T) {
	a, b := row(3, 0), row(1, 50)
	want := slices.Clone(a)
	for range 2 {
		all, _ := times.Union(a)
		left, _ := times.Minus(a, b)
		if !slices.Equal(all, want) || !slices.Equal(left, want) || !slices.Equal(a, want) {
			t.Errorf("Union is %v, Minus %v, of %v", all, left, a)
		}
		_ = append(a[:2], api.TmSpan{From: 4, To: 5})
		clear(all[:cap(all)])
		clear(left[:cap(left)])
		if !slices.Equal(a, want) || !slices.Equal(b, row(1, 50)) {
			t.Errorf("the arguments have become %v and %v", a, b)
		}
	}
	room := row(4, 0)
	if _, e := times.Union(room[:2]); e != api.OK || !slices.Equal(room, row(4, 0)) {
		t.Errorf("what is behind the list has become %v", room)
	}
	if _, e := times.Minus(room[:2], room[1:2]); e != api.OK || !slices.Equal(room, row(4, 0)) {
		t.Errorf("what is behind the list has become %v", room)
	}
}

// The examples.
func TestSpanExamples(t *testing.T) {
	if s, some, e := times.Meet(api.TmSpan{From: 0, To: 5}, api.TmSpan{From: 3, To: 9}); s != (api.TmSpan{From: 3, To: 5}) || !some || e != api.OK {
		t.Errorf("Meet is %v, %v, %d", s, some, e)
	}
	if s, some, e := times.Meet(api.TmSpan{From: 0, To: 5}, api.TmSpan{From: 5, To: 6}); s != (api.TmSpan{}) || some || e != api.OK {
		t.Errorf("Meet is %v, %v, %d", s, some, e)
	}
	if l, e := times.Union(spans{{From: 5, To: 7}, {From: 0, To: 2}, {From: 2, To: 3}}); !slices.Equal(l, spans{{From: 0, To: 3}, {From: 5, To: 7}}) || e != api.OK {
		t.Errorf("Union is %v, %d", l, e)
	}
	l, e := times.Minus(spans{{From: 0, To: 10}}, spans{{From: 3, To: 4}, {From: 9, To: 20}})
	if !slices.Equal(l, spans{{From: 0, To: 3}, {From: 4, To: 9}}) || e != api.OK {
		t.Errorf("Minus is %v, %d", l, e)
	}
	if n, e := times.Total(l); n != 8 || e != api.OK {
		t.Errorf("Total is %d, %d", n, e)
	}
}
