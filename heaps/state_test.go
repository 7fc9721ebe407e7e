package heaps_test

import (
	"math"
	"slices"
	"testing"

	"groundling/api"
	"groundling/heaps"
)

// load returns the queue of a state that is one, and the list that it should be.
func load(t *testing.T, s state) *both {
	t.Helper()
	before := slices.Clone(s.Items)
	q, e := heaps.Load(byKey, s)
	if q == nil || e != api.OK {
		t.Fatalf("Load(%v) is %p, %d", s, q, e)
	}
	if !slices.Equal(s.Items, before) {
		t.Fatalf("Load changes %v to %v", before, s.Items)
	}
	return &both{t, q, list{s.Next, slices.Clone(s.Items)}}
}

// P6.1 and P6.7: Load of Save has the same state, and goes on alike.
func TestLoadOfSave(t *testing.T) {
	s := source(4)
	for round := range 60 {
		b := newBoth(t)
		for n := range round * 3 {
			b.push(value{s.below(1 + round/2), n})
			if s.below(3) == 0 {
				b.remove(1 + int64(s.below(n+1)))
			}
			if s.below(9) == 0 {
				b.pop()
			}
		}
		other := load(t, b.q.Save())
		other.check()
		other.checkGets()
		for n := range 100 {
			v, handle, kind := value{s.below(1 + round/2), n}, 1+int64(s.below(int(b.l.next)+1)), s.below(4)
			for _, x := range []*both{b, other} {
				switch kind {
				case 0:
					x.push(v)
				case 1:
					x.pop()
				case 2:
					x.set(handle, v)
				default:
					x.remove(handle)
				}
			}
		}
		b.check()
		other.check()
		b.drain()
		other.drain()
	}
}

// P6.1: states that are some: empty ones, with handles that are not given any more, and with large ones.
func TestLoad(t *testing.T) {
	large := int64(api.MaxHandle)
	for _, s := range []state{
		{Next: 1},
		{Next: 1, Items: []item{}},
		{Next: 77},
		{Next: large - 1},
		{Next: 2, Items: []item{with(1, 5, 0)}},
		{Next: 9, Items: []item{with(8, 5, 0)}},
		{Next: 9, Items: []item{with(8, 5, 0), with(1, 6, 0)}},
		{Next: 9, Items: []item{with(3, 5, 0), with(4, 5, 1), with(7, 5, 0), with(2, 6, 0), with(1, 8, 0)}},
		{Next: large - 4, Items: []item{with(1<<40, -5, 0), with(large-5, -5, 0), with(1<<40+1, -4, 0)}},
	} {
		b := load(t, s)
		b.check()
		b.push(value{5, 5})
		b.check()
	}
}

// checkMaxHandle checks that nothing is pushed into b, whose next handle is the greatest one.
func checkMaxHandle(b *both) {
	b.t.Helper()
	for range 2 {
		if handle, e := b.q.Push(value{3, 3}); handle != 0 || e != api.ErrFull {
			b.t.Fatalf("Push is %d, %d", handle, e)
		}
		b.check()
	}
}

// P6.2: the last handle is 10^15 - 1; after it nothing is pushed, even if there is room, and what is there may be changed and taken out.
func TestLastHandle(t *testing.T) {
	const last = 999999999999999
	b := load(t, state{Next: last - 1, Items: []item{with(5, 1, 0), with(last-2, 2, 0)}})
	b.push(value{1, 1})
	b.push(value{1, 2})
	b.get(last)
	b.get(last + 1)
	checkMaxHandle(b)
	b.set(last, value{0, 0})
	checkMaxHandle(b)
	b.remove(last)
	checkMaxHandle(b)
	other := load(t, b.q.Save())
	checkMaxHandle(other)
	b.drain()
	checkMaxHandle(b)
	checkMaxHandle(load(t, state{Next: last + 1}))
}

// ascendingState returns a state of n values.
func ascendingState(n int) state {
	s := state{Next: int64(n) + 1}
	for i := range n {
		s.Items = append(s.Items, with(int64(i+1), i/3, i))
	}
	return s
}

// P6.1: 5000 values are loaded, and no more are pushed then.
func TestLoadFull(t *testing.T) {
	b := load(t, ascendingState(5000))
	if handle, e := b.q.Push(value{}); handle != 0 || e != api.ErrFull {
		t.Errorf("Push is %d, %d", handle, e)
	}
	b.check()
	b.pop()
	b.push(value{-1, 0})
	b.drain()
}

// checkLoad checks that Load returns the error, and no queue.
func checkLoad(t *testing.T, what string, s state, want api.Errno) {
	t.Helper()
	before := slices.Clone(s.Items)
	if q, e := heaps.Load(byKey, s); q != nil || e != want {
		t.Errorf("%s: Load is %p, %d, not %d", what, q, e, want)
	}
	if !slices.Equal(s.Items, before) {
		t.Errorf("%s: Load changes %v to %v", what, before, s.Items)
	}
	if q, e := heaps.Load(nil, s); q != nil || e != api.ErrNil {
		t.Errorf("%s: Load without less is %p, %d", what, q, e)
	}
}

// P6.1: the errors of Load, each of them alone.
func TestLoadErrors(t *testing.T) {
	checkLoad(t, "5001 values", ascendingState(5001), api.ErrLong)
	for _, next := range []int64{math.MinInt64, -1, 0, api.MaxHandle + 1, math.MaxInt64} {
		checkLoad(t, "next", state{Next: next}, api.ErrRange)
		checkLoad(t, "next", state{Next: next, Items: []item{with(1, 5, 5)}}, api.ErrRange)
	}
	checkLoad(t, "no handle was given", state{Next: 1, Items: []item{with(1, 5, 5)}}, api.ErrRange)
	for _, handle := range append(slices.Clone(strangeHandles), 5, 6) {
		checkLoad(t, "alone", state{Next: 5, Items: []item{with(handle, 5, 5)}}, api.ErrRange)
		checkLoad(t, "first", state{Next: 5, Items: []item{with(handle, 5, 5), with(1, 6, 0)}}, api.ErrRange)
		checkLoad(t, "last", state{Next: 5, Items: []item{with(1, 5, 5), with(2, 5, 5), with(handle, 6, 0)}}, api.ErrRange)
	}
	checkLoad(t, "the same twice", state{Next: 5, Items: []item{with(1, 5, 5), with(1, 5, 5)}}, api.ErrTwice)
	checkLoad(t, "one handle, other values", state{Next: 5, Items: []item{with(3, 5, 5), with(1, 6, 6), with(3, 7, 7)}}, api.ErrTwice)
	checkLoad(t, "descending", state{Next: 5, Items: []item{with(1, 6, 6), with(2, 5, 5)}}, api.ErrForm)
	checkLoad(t, "alike, handles descending", state{Next: 5, Items: []item{with(2, 5, 5), with(1, 5, 5)}}, api.ErrForm)
	checkLoad(t, "alike, handles descending", state{Next: 5, Items: []item{with(1, 0, 0), with(4, 5, 5), with(3, 5, 1)}}, api.ErrForm)
	// Each value is before those under it in a heap, but they do not ascend.
	checkLoad(t, "a heap", state{Next: 5, Items: []item{with(1, 1, 0), with(2, 3, 0), with(3, 2, 0)}}, api.ErrForm)
}

// P6.1: states of three values: all orders of them, and all handles.
func TestLoadOrders(t *testing.T) {
	for n := range 125 * 27 {
		handles, keys := n%125, n/125
		s := state{Next: 4}
		twice, outside := false, false
		for range 3 {
			x := with(int64(handles%5), keys%3, 0)
			handles, keys = handles/5, keys/3
			twice = twice || slices.ContainsFunc(s.Items, func(y item) bool { return y.Handle == x.Handle })
			outside = outside || x.Handle < 1 || x.Handle > 3
			s.Items = append(s.Items, x)
		}
		var l list
		for _, x := range s.Items {
			l.put(x)
		}
		switch {
		case outside:
			checkLoad(t, "outside", s, api.ErrRange)
		case twice:
			checkLoad(t, "twice", s, api.ErrTwice)
		case !slices.Equal(l.items, s.Items):
			checkLoad(t, "another order", s, api.ErrForm)
		default:
			b := load(t, s)
			b.check()
			b.drain()
		}
	}
}

// P6.1 and R2: of several errors the first one that is named counts, wherever it is.
func TestLoadFirstError(t *testing.T) {
	long := ascendingState(5001)
	long.Next = 0
	long.Items[0].Handle = -1
	long.Items[1] = long.Items[2]
	slices.Reverse(long.Items)
	checkLoad(t, "too many, and all else", long, api.ErrLong)
	checkLoad(t, "no handle, then twice", state{Next: 5, Items: []item{with(0, 5, 5), with(0, 5, 5)}}, api.ErrRange)
	checkLoad(t, "twice, then no handle", state{Next: 5, Items: []item{with(2, 5, 5), with(2, 5, 5), with(5, 5, 5)}}, api.ErrRange)
	checkLoad(t, "twice, and next", state{Next: 0, Items: []item{with(2, 5, 5), with(2, 5, 5)}}, api.ErrRange)
	checkLoad(t, "descending, then no handle", state{Next: 5, Items: []item{with(2, 5, 5), with(1, 5, 5), with(5, 5, 5)}}, api.ErrRange)
	checkLoad(t, "descending, then twice", state{Next: 5, Items: []item{with(3, 5, 5), with(2, 5, 5), with(4, 5, 5), with(4, 5, 5)}}, api.ErrTwice)
	checkLoad(t, "twice, then descending", state{Next: 5, Items: []item{with(3, 5, 5), with(3, 5, 5), with(1, 0, 0)}}, api.ErrTwice)
}

// R3: neither the state that is loaded is kept, nor is what Save returns; what follows the items in their memory stays.
func TestStateIsNotShared(t *testing.T) {
	s := ascendingState(9)
	room := s.Items
	s.Items = room[:6]
	want := slices.Clone(room)
	b := load(t, s)
	b.push(value{0, 100})
	b.set(2, value{-1, 100})
	b.pop()
	b.remove(5)
	if !slices.Equal(room, want) {
		t.Errorf("the state that was loaded has become %v", room)
	}
	clear(room)
	b.check()
	saved := b.q.Save()
	before := slices.Clone(saved.Items)
	b.push(value{0, 0})
	b.set(b.l.next-1, value{99, 0})
	b.remove(4)
	if !slices.Equal(saved.Items, before) {
		t.Errorf("the state that was saved has become %v", saved.Items)
	}
	saved = b.q.Save()
	clear(append(saved.Items, item{})[:cap(saved.Items)])
	b.check()
	b.drain()
}
