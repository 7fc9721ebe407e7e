package heaps_test

import (
	"cmp"
	"errors"
	"slices"
	"testing"

	"groundling/api"
	"groundling/heaps"
)

// source gives numbers that look like random ones, the same ones in each run.
type source uint64

func (s *source) next() uint64 {
	*s ^= *s << 13
	*s ^= *s >> 7
	*s ^= *s << 17
	return uint64(*s)
}

func (s *source) below(n int) int { return int(s.next() >> 1 % uint64(n)) }

// checkNone checks that no method of q does anything, as New and Load did not return it.
func checkNone(t *testing.T, what string, q *queue) {
	t.Helper()
	if handle, e := q.Push(value{1, 1}); handle != 0 || e != api.ErrNil {
		t.Errorf("%s: Push is %d, %d", what, handle, e)
	}
	if handle, v, e := q.Peek(); handle != 0 || v != (value{}) || e != api.ErrNil {
		t.Errorf("%s: Peek is %d, %v, %d", what, handle, v, e)
	}
	if handle, v, e := q.Pop(); handle != 0 || v != (value{}) || e != api.ErrNil {
		t.Errorf("%s: Pop is %d, %v, %d", what, handle, v, e)
	}
	for _, handle := range append(slices.Clone(strangeHandles), 1, 2, 3) {
		if v, e := q.Get(handle); v != (value{}) || e != api.ErrNil {
			t.Errorf("%s: Get is %v, %d", what, v, e)
		}
		if e := q.Set(handle, value{2, 2}); e != api.ErrNil {
			t.Errorf("%s: Set is %d", what, e)
		}
		if v, e := q.Remove(handle); v != (value{}) || e != api.ErrNil {
			t.Errorf("%s: Remove is %v, %d", what, v, e)
		}
	}
	if n := q.Len(); n != 0 {
		t.Errorf("%s: Len is %d", what, n)
	}
	if l := all(q); len(l) != 0 {
		t.Errorf("%s: All yields %v", what, l)
	}
	if s := q.Save(); s.Next != 0 || len(s.Items) != 0 {
		t.Errorf("%s: Save is %v", what, s)
	}
}

// The methods of what New and Load did not return: nothing happens, also not to the queue of which it is a value.
func TestNoQueue(t *testing.T) {
	var none *queue
	var zero queue
	for range 2 {
		checkNone(t, "nil", none)
		checkNone(t, "a zero value", &zero)
		checkNone(t, "a new zero value", new(queue))
		checkNone(t, "New without less", heaps.New[value](nil))
	}
	b := pushAll(t, 3, 1, 2)
	for _, x := range []*both{b, load(t, b.q.Save())} {
		copied := *x.q
		checkNone(t, "a value of a queue", &copied)
		x.check()
		x.pop()
		checkNone(t, "a value of a queue", &copied)
		x.drain()
	}
}

// R2: a call that returns an error changes nothing.
func TestErrorsChangeNothing(t *testing.T) {
	b := pushAll(t, 4, 1, 3, 1)
	b.pop()
	for _, handle := range append(slices.Clone(strangeHandles), 2, 5, 6) {
		b.get(handle)
		b.set(handle, value{0, 0})
		b.remove(handle)
		b.check()
	}
	b.drain()
	b.pop()
	b.set(1, value{})
	b.remove(1)
	b.check()
}

// R6: different queues do not touch each other.
func TestQueuesApart(t *testing.T) {
	s := source(5)
	var l []*both
	for range 3 {
		l = append(l, newBoth(t))
	}
	for n := range 2000 {
		b := l[s.below(3)]
		switch v, handle := (value{s.below(50), n}), 1+int64(s.below(int(b.l.next))); s.below(5) {
		case 0, 1:
			b.push(v)
		case 2:
			b.pop()
		case 3:
			b.set(handle, v)
		default:
			b.remove(handle)
		}
		for _, b := range l {
			b.check()
		}
	}
}

// R6: different queues may be used at the same time, and one queue may be asked at the same time.
func TestCallsAtOnce(t *testing.T) {
	shared := pushAll(t, 5, 2, 8, 2)
	want := shared.q.Save()
	done := make(chan bool)
	for i := range 8 {
		go func() {
			s := source(i + 1)
			q := heaps.New(cmp.Less[int])
			ok := true
			for range 200 {
				for range 20 {
					q.Push(s.below(30))
				}
				last := -1
				for range q.Len() {
					_, v, e := q.Pop()
					ok = ok && e == api.OK && v >= last
					last = v
				}
				handle, v, e := shared.q.Peek()
				ok = ok && handle == 2 && v == want.Items[0].Value && e == api.OK && slices.Equal(shared.q.Save().Items, want.Items) && slices.Equal(all(shared.q), want.Items)
			}
			done <- ok
		}()
	}
	for range 8 {
		if !<-done {
			t.Error("a call at the same time as others has another result")
		}
	}
}

// sorted returns what Pop returns, and checks that Save and All have it before.
func sorted[T any](t *testing.T, less func(a, b T) bool, values ...T) []int64 {
	t.Helper()
	q := heaps.New(less)
	for _, v := range values {
		q.Push(v)
	}
	again, e := heaps.Load(less, q.Save())
	if e != api.OK {
		t.Fatalf("Load of Save is %d", e)
	}
	items := all(q)
	var handles []int64
	for _, x := range items {
		handle, _, e := q.Pop()
		handle2, _, e2 := again.Pop()
		if handle != x.Handle || handle2 != handle || e != api.OK || e2 != api.OK {
			t.Fatalf("Pop is %d, %d and %d, %d, after All with %d", handle, e, handle2, e2, x.Handle)
		}
		handles = append(handles, handle)
	}
	return handles
}

// P6.5: values may be of any type, in any order: what less says counts, and not what the type is.
func TestTypes(t *testing.T) {
	check := func(what string, got []int64, want ...int64) {
		t.Helper()
		if !slices.Equal(got, want) {
			t.Errorf("%s: %d are popped, not %d", what, got, want)
		}
	}
	check("descending numbers", sorted(t, func(a, b int8) bool { return a > b }, 3, -128, 127, 3), 3, 1, 4, 2)
	check("strings", sorted(t, cmp.Less[string], "b", "", "ab", "b\x00", "\xff", "b"), 2, 3, 1, 6, 4, 5)
	check("lengths", sorted(t, func(a, b []byte) bool { return len(a) < len(b) }, []byte{1, 2}, nil, []byte{7}, []byte{}), 2, 4, 3, 1)
	check("nothing", sorted(t, func(a, b struct{}) bool { return false }, struct{}{}, struct{}{}, struct{}{}), 1, 2, 3)
	check("funcs", sorted(t, func(a, b func() int) bool { return a() < b() }, func() int { return 2 }, func() int { return 1 }), 2, 1)
	one, two := 1, 2
	check("pointers", sorted(t, func(a, b *int) bool { return *a < *b }, &two, &one, &two), 2, 1, 3)
	wrong := errors.New("wrong")
	check("errors", sorted(t, func(a, b error) bool { return a != nil && b == nil }, nil, wrong, nil, wrong), 2, 4, 1, 3)
	check("any", sorted(t, func(a, b any) bool { return a == nil && b != nil }, any(1), nil, any("x"), nil), 2, 4, 1, 3)
	check("items", sorted(t, func(a, b api.HpItem[int]) bool { return a.Value < b.Value }, api.HpItem[int]{Handle: 1, Value: 5}, api.HpItem[int]{Handle: 1, Value: 4}), 2, 1)
}

// P6.2 and P6.3: a value that is nil, of a type that is an interface, is a value as any other.
func TestNilValues(t *testing.T) {
	wrong := errors.New("wrong")
	q := heaps.New(func(a, b error) bool { return a != nil && b == nil })
	q.Push(nil)
	q.Push(wrong)
	q.Set(2, nil)
	if v, e := q.Get(2); v != nil || e != api.OK {
		t.Errorf("Get is %v, %d", v, e)
	}
	if v, e := q.Remove(1); v != nil || e != api.OK {
		t.Errorf("Remove is %v, %d", v, e)
	}
	if handle, v, e := q.Pop(); handle != 2 || v != nil || e != api.OK {
		t.Errorf("Pop is %d, %v, %d", handle, v, e)
	}
}

// P6.3: what Set puts into the place of a value counts, even if less reads it elsewhere.
func TestOrderElsewhere(t *testing.T) {
	deadlines := []int{40, 10, 30, 20}
	q := heaps.New(func(a, b int) bool { return deadlines[a] < deadlines[b] })
	for seat := range deadlines {
		q.Push(seat)
	}
	deadlines[1] = 50
	q.Set(2, 1)
	deadlines[2] = 5
	q.Set(3, 2)
	for _, want := range []int64{3, 4, 1, 2} {
		if handle, v, e := q.Pop(); handle != want || v != int(want)-1 || e != api.OK {
			t.Errorf("Pop is %d, %d, %d, not %d", handle, v, e, want)
		}
	}
}

// checkAnyLess checks that a queue has its values, each of them once, whatever less says of them.
func checkAnyLess(t *testing.T, what string, less func(a, b value) bool) {
	t.Helper()
	q := heaps.New(less)
	want := map[int64]value{}
	for i := range 60 {
		v := value{i * 7 % 13, i}
		handle, e := q.Push(v)
		if handle != int64(i)+1 || e != api.OK {
			t.Fatalf("%s: Push is %d, %d", what, handle, e)
		}
		want[handle] = v
	}
	for handle := int64(3); handle < 60; handle += 5 {
		want[handle] = value{key: int(handle)}
		if e := q.Set(handle, want[handle]); e != api.OK {
			t.Fatalf("%s: Set is %d", what, e)
		}
		if v, e := q.Remove(handle + 1); v != want[handle+1] || e != api.OK {
			t.Fatalf("%s: Remove is %v, %d", what, v, e)
		}
		delete(want, handle+1)
	}
	if n, l, s := q.Len(), all(q), q.Save(); n != len(want) || len(l) != n || len(s.Items) != n {
		t.Fatalf("%s: there are %d values, of %d", what, n, len(want))
	}
	for len(want) > 0 {
		handle, v, e := q.Pop()
		if x, ok := want[handle]; !ok || x != v || e != api.OK {
			t.Fatalf("%s: Pop is %d, %v, %d", what, handle, v, e)
		}
		delete(want, handle)
	}
}

// P6.8: a less that is no order, or that panics, is accepted too; no value is lost.
func TestAnyLess(t *testing.T) {
	s := source(6)
	checkAnyLess(t, "always", func(a, b value) bool { return true })
	checkAnyLess(t, "never", func(a, b value) bool { return false })
	checkAnyLess(t, "not greater", func(a, b value) bool { return a.key <= b.key })
	checkAnyLess(t, "round", func(a, b value) bool { return (b.key-a.key+13)%13 < 7 })
	checkAnyLess(t, "any", func(a, b value) bool { return s.below(2) == 0 })
	checkAnyLess(t, "panic", func(a, b value) bool { panic("no order") })
	checkAnyLess(t, "some panic", func(a, b value) bool { return 10/(a.key-b.key) < 0 })
	for _, next := range []int64{0, 5} {
		heaps.Load(func(a, b value) bool { panic("no order") }, state{Next: next, Items: []item{with(1, 0, 0), with(2, 0, 0)}})
	}
}

// changes are what a less does to the queue that calls it.
var changes = []func(q *queue, a, b value){
	func(q *queue, a, b value) { q.Pop() },
	func(q *queue, a, b value) { q.Remove(int64(a.tag)) },
	func(q *queue, a, b value) { q.Remove(int64(b.tag)) },
	func(q *queue, a, b value) { q.Set(int64(b.tag), value{-b.key, b.tag}) },
	func(q *queue, a, b value) { q.Push(value{a.key, 1}) },
	func(q *queue, a, b value) {
		for range q.Len() {
			q.Pop()
		}
	},
}

// P6.8: a less that changes the queue is accepted too: the call returns, and the queue has as many values as it says.
func TestLessThatChanges(t *testing.T) {
	calls := []func(q *queue){
		func(q *queue) { q.Push(value{-1, 13}) },
		func(q *queue) { q.Pop() },
		func(q *queue) { q.Set(1, value{-1, 1}) },
		func(q *queue) { q.Set(7, value{50, 7}) },
		func(q *queue) { q.Remove(7) },
		func(q *queue) { q.Save() },
		func(q *queue) { all(q) },
	}
	for i := range len(changes) * len(calls) * 12 {
		var q *queue
		left := -1 // how many times less says something until it changes the queue
		q = heaps.New(func(a, b value) bool {
			if left--; left == 0 {
				changes[i%len(changes)](q, a, b)
			}
			return a.key < b.key
		})
		for tag := range 12 {
			q.Push(value{tag * 7 % 13, tag + 1})
		}
		left = 1 + i/len(changes)/len(calls)
		calls[i/len(changes)%len(calls)](q)
		left = -1
		n, found := q.Len(), 0
		for handle := range int64(20) {
			if _, e := q.Get(handle); e == api.OK {
				found++
			}
		}
		if l := q.Save().Items; len(l) != n || found != n {
			t.Errorf("change %d: there are %d values, and %d handles, of %d", i, len(l), found, n)
		}
		for range n {
			q.Pop()
		}
		if n = q.Len(); n != 0 {
			t.Errorf("change %d: %d values are left", i, n)
		}
	}
}
