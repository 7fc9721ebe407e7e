package heaps_test

import (
	"math"
	"slices"
	"testing"

	"groundling/api"
	"groundling/heaps"
)

// value has a key, by which values are ordered, and a tag, which tells values that are alike apart.
type value struct{ key, tag int }

type (
	item  = api.HpItem[value]
	state = api.HpState[value]
	queue = heaps.Queue[value]
)

// with returns a value with its handle.
func with(handle int64, key, tag int) item {
	return item{Handle: handle, Value: value{key, tag}}
}

func byKey(a, b value) bool { return a.key < b.key }

// list is a queue by the definition: its values stand in their order.
type list struct {
	next  int64
	items []item
}

// put puts an item before the first one that comes after it.
func (l *list) put(x item) {
	at := 0
	for at < len(l.items) {
		y := l.items[at]
		if x.Value.key < y.Value.key || x.Value.key == y.Value.key && x.Handle < y.Handle {
			break
		}
		at++
	}
	l.items = slices.Insert(l.items, at, x)
}

func (l *list) find(handle int64) int {
	return slices.IndexFunc(l.items, func(x item) bool { return x.Handle == handle })
}

// take takes out the item at this place.
func (l *list) take(at int) item {
	x := l.items[at]
	l.items = slices.Delete(l.items, at, at+1)
	return x
}

// both is a queue, and the list that it should be.
type both struct {
	t *testing.T
	q *queue
	l list
}

func newBoth(t *testing.T) *both { return &both{t, heaps.New(byKey), list{next: 1}} }

func (b *both) push(v value) {
	b.t.Helper()
	handle, e := b.q.Push(v)
	if handle != b.l.next || e != api.OK {
		b.t.Fatalf("Push(%v) is %d, %d, not %d", v, handle, e, b.l.next)
	}
	b.l.put(item{Handle: handle, Value: v})
	b.l.next++
}

func (b *both) pop() {
	b.t.Helper()
	handle, v, e := b.q.Pop()
	want, wantErr := item{}, api.ErrNone
	if len(b.l.items) > 0 {
		want, wantErr = b.l.take(0), api.OK
	}
	if handle != want.Handle || v != want.Value || e != wantErr {
		b.t.Fatalf("Pop is %d, %v, %d, not %v, %d", handle, v, e, want, wantErr)
	}
}

func (b *both) set(handle int64, v value) {
	b.t.Helper()
	want := api.ErrNone
	if at := b.l.find(handle); at >= 0 {
		b.l.take(at)
		b.l.put(item{Handle: handle, Value: v})
		want = api.OK
	}
	if e := b.q.Set(handle, v); e != want {
		b.t.Fatalf("Set(%d, %v) is %d, not %d", handle, v, e, want)
	}
}

func (b *both) remove(handle int64) {
	b.t.Helper()
	want, wantErr := item{}, api.ErrNone
	if at := b.l.find(handle); at >= 0 {
		want, wantErr = b.l.take(at), api.OK
	}
	if v, e := b.q.Remove(handle); v != want.Value || e != wantErr {
		b.t.Fatalf("Remove(%d) is %v, %d, not %v, %d", handle, v, e, want, wantErr)
	}
}

// get checks Get of a handle.
func (b *both) get(handle int64) {
	b.t.Helper()
	want, wantErr := item{}, api.ErrNone
	if at := b.l.find(handle); at >= 0 {
		want, wantErr = b.l.items[at], api.OK
	}
	if v, e := b.q.Get(handle); v != want.Value || e != wantErr {
		b.t.Fatalf("Get(%d) is %v, %d, not %v, %d", handle, v, e, want, wantErr)
	}
}

// check checks what the queue says of its values, twice, since it stays as it is.
func (b *both) check() {
	b.t.Helper()
	for range 2 {
		if n := b.q.Len(); n != len(b.l.items) {
			b.t.Fatalf("Len is %d, not %d", n, len(b.l.items))
		}
		first, wantErr := item{}, api.ErrNone
		if len(b.l.items) > 0 {
			first, wantErr = b.l.items[0], api.OK
		}
		if handle, v, e := b.q.Peek(); handle != first.Handle || v != first.Value || e != wantErr {
			b.t.Fatalf("Peek is %d, %v, %d, not %v, %d", handle, v, e, first, wantErr)
		}
		if s := b.q.Save(); s.Next != b.l.next || !slices.Equal(s.Items, b.l.items) {
			b.t.Fatalf("Save is %v, not %v", s, b.l)
		}
		if l := all(b.q); !slices.Equal(l, b.l.items) {
			b.t.Fatalf("All yields %v, not %v", l, b.l.items)
		}
	}
}

// checkGets checks Get of all handles that were given, and of some that were not.
func (b *both) checkGets() {
	b.t.Helper()
	for handle := range b.l.next + 3 {
		b.get(handle - 1)
	}
	for _, handle := range strangeHandles {
		b.get(handle)
	}
}

// drain pops all values, and once more.
func (b *both) drain() {
	b.t.Helper()
	for range len(b.l.items) + 1 {
		b.pop()
	}
	b.check()
}

// strangeHandles are handles that no queue of the tests has given.
var strangeHandles = []int64{math.MinInt64, -api.MaxHandle, -1, 0, 1 << 32, 1<<32 + 1, api.MaxHandle - 1, api.MaxHandle, math.MaxInt64}

func all[T any](q *heaps.Queue[T]) []api.HpItem[T] {
	var l []api.HpItem[T]
	for handle, v := range q.All() {
		l = append(l, api.HpItem[T]{Handle: handle, Value: v})
	}
	return l
}

// pushAll returns a queue to which values with these keys were pushed.
func pushAll(t *testing.T, keys ...int) *both {
	t.Helper()
	b := newBoth(t)
	for i, key := range keys {
		b.push(value{key, i})
	}
	return b
}

// The examples.
func TestExamples(t *testing.T) {
	q := heaps.New(func(a, b int) bool { return a < b })
	for i, v := range []int{5, 3, 3} {
		if handle, e := q.Push(v); handle != int64(i+1) || e != api.OK {
			t.Errorf("Push(%d) is %d, %d", v, handle, e)
		}
	}
	if handle, v, e := q.Peek(); handle != 2 || v != 3 || e != api.OK {
		t.Errorf("Peek is %d, %d, %d", handle, v, e)
	}
	if e := q.Set(1, 3); e != api.OK {
		t.Errorf("Set is %d", e)
	}
	if l := all(q); !slices.Equal(l, []api.HpItem[int]{{Handle: 1, Value: 3}, {Handle: 2, Value: 3}, {Handle: 3, Value: 3}}) {
		t.Errorf("All yields %v", l)
	}
	if v, e := q.Remove(2); v != 3 || e != api.OK {
		t.Errorf("Remove is %d, %d", v, e)
	}
	for _, want := range []int64{1, 3} {
		if handle, v, e := q.Pop(); handle != want || v != 3 || e != api.OK {
			t.Errorf("Pop is %d, %d, %d", handle, v, e)
		}
	}
	if handle, v, e := q.Pop(); handle != 0 || v != 0 || e != api.ErrNone {
		t.Errorf("Pop is %d, %d, %d", handle, v, e)
	}
	if handle, e := q.Push(9); handle != 4 || e != api.OK {
		t.Errorf("Push is %d, %d", handle, e)
	}
	if v, e := q.Get(1); v != 0 || e != api.ErrNone {
		t.Errorf("Get is %d, %d", v, e)
	}
}

// P6.1: a new queue is empty, and its first handle is 1; without a less there is none.
func TestNew(t *testing.T) {
	b := newBoth(t)
	b.check()
	b.checkGets()
	b.pop()
	for _, handle := range append(slices.Clone(strangeHandles), 1, 2) {
		b.set(handle, value{1, 1})
		b.remove(handle)
	}
	b.check()
	b.push(value{4, 4})
	b.check()
	if q := heaps.New[value](nil); q != nil {
		t.Errorf("New(nil) is %p", q)
	}
	if heaps.New(byKey) == heaps.New(byKey) {
		t.Error("New returns the same queue twice")
	}
}

// P6.2 and P6.3: all short sequences of calls.
func TestShortSequences(t *testing.T) {
	var calls []func(*both)
	for key := range 3 {
		calls = append(calls, func(b *both) { b.push(value{key, 9}) })
		for handle := range int64(4) {
			calls = append(calls, func(b *both) { b.set(handle, value{key, 8}) })
		}
	}
	for handle := range int64(5) {
		calls = append(calls, func(b *both) { b.remove(handle) })
	}
	calls = append(calls, (*both).pop)
	for _, start := range [][]int{{}, {1, 0, 1}} {
		for n := range len(calls) * len(calls) * len(calls) {
			b := pushAll(t, start...)
			for ; n > 0; n /= len(calls) {
				calls[n%len(calls)](b)
			}
			b.check()
			b.checkGets()
			b.drain()
		}
	}
}

// P6.3: each value is changed, and taken out, in queues of all kinds: the others stay where they are.
func TestEachPlace(t *testing.T) {
	const size = 7
	for n := range 2187 { // 3 to the power of size
		var keys []int
		for range size {
			keys = append(keys, n%3)
			n /= 3
		}
		for handle := range int64(size) {
			b := pushAll(t, keys...)
			b.remove(handle + 1)
			b.check()
			b.remove(handle + 1)
			b.drain()
			for key := range 3 {
				b := pushAll(t, keys...)
				b.set(handle+1, value{key, 100})
				b.check()
				b.drain()
			}
		}
	}
}

// P6.3: values far away from the first one go up and down all the way, and out, wherever they are.
func TestEachPlaceOfMany(t *testing.T) {
	s := source(1)
	for _, size := range []int{1, 2, 31, 32, 100} {
		keys := make([]int, size)
		for i := range keys {
			keys[i] = 10 + s.below(2*size)
		}
		for i := range keys {
			for _, key := range []int{0, 10, keys[i] - 1, keys[i], keys[i] + 1, 10 + size, 1000} {
				b := pushAll(t, keys...)
				b.set(int64(i)+1, value{key, -1})
				b.get(int64(i) + 1)
				b.check()
				b.drain()
			}
			b := pushAll(t, keys...)
			b.remove(int64(i) + 1)
			b.checkGets()
			b.drain()
		}
	}
}

// P6.5 and P6.6: many calls, in all orders, against the list: with many values that are alike, with few, and with none.
func TestManyCalls(t *testing.T) {
	for i, keys := range []int{1, 3, 20, 1 << 30} {
		s := source(i + 10)
		b := newBoth(t)
		for n := range 6000 {
			growing := n/500%2 == 0 // so that the queue becomes long, and empty again
			handle := 1 + int64(s.below(int(b.l.next)+1))
			if len(b.l.items) > 0 && s.below(4) > 0 {
				handle = b.l.items[s.below(len(b.l.items))].Handle
			}
			switch v := (value{s.below(keys), n}); s.below(8) {
			case 0, 1, 2:
				b.push(v)
			case 3, 4:
				b.set(handle, v)
			case 5:
				b.get(handle)
			case 6:
				if !growing {
					b.remove(handle)
				}
			default:
				if !growing {
					b.pop()
					b.pop()
				}
			}
			if n%20 == 0 {
				b.check()
			}
		}
		b.checkGets()
		b.drain()
	}
}

// P6.5: what is popped is what was pushed, in order; values that are alike come in the order of their handles.
func TestPopInOrder(t *testing.T) {
	s := source(2)
	for _, size := range []int{1, 2, 3, 10, 100, 1000} {
		b := newBoth(t)
		seen := map[int64]bool{}
		for i := range size {
			b.push(value{s.below(1 + size/3), i})
		}
		last := item{Value: value{key: -1}}
		for range size {
			handle, v, e := b.q.Pop()
			if e != api.OK || seen[handle] || v.tag != int(handle)-1 {
				t.Fatalf("Pop is %d, %v, %d", handle, v, e)
			}
			if v.key < last.Value.key || v.key == last.Value.key && handle < last.Handle {
				t.Fatalf("%d, %v is popped after %v", handle, v, last)
			}
			seen[handle] = true
			last = item{Handle: handle, Value: v}
		}
		if b.q.Len() != 0 {
			t.Fatalf("%d values are left", b.q.Len())
		}
	}
}

// permutations calls f with each order of the numbers from 0 to n - 1.
func permutations(n int, f func([]int)) {
	var order []int
	var extend func()
	extend = func() {
		if len(order) == n {
			f(order)
			return
		}
		for k := range n {
			if !slices.Contains(order, k) {
				order = append(order, k)
				extend()
				order = order[:len(order)-1]
			}
		}
	}
	extend()
}

// P6.7: different values are popped in the same order, in whichever they were pushed.
func TestOrderOfPushes(t *testing.T) {
	for n := range 8 {
		permutations(n, func(order []int) {
			b := newBoth(t)
			for _, key := range order {
				b.push(value{key, 10 * key})
			}
			for key := range n {
				handle, v, e := b.q.Pop()
				if v != (value{key, 10 * key}) || order[handle-1] != key || e != api.OK {
					t.Fatalf("of %v, Pop %d is %d, %v, %d", order, key, handle, v, e)
				}
			}
		})
	}
}

// P6.6: Remove of what was just pushed, and Set to the value that was there, leave the values as they were; handles are not given again.
func TestThereAndBack(t *testing.T) {
	s := source(3)
	b := newBoth(t)
	for n := range 300 {
		before := b.q.Save()
		handle, _ := b.q.Push(value{s.below(40), n})
		b.q.Remove(handle)
		for _, x := range before.Items {
			b.q.Set(x.Handle, value{s.below(40), n})
			b.q.Set(x.Handle, x.Value)
			b.q.Set(x.Handle, x.Value)
		}
		if after := b.q.Save(); after.Next != before.Next+1 || !slices.Equal(after.Items, before.Items) {
			t.Fatalf("%v has become %v", before, after)
		}
		b.l.next++
		if n%3 == 2 {
			b.pop()
			b.remove(b.l.next - 1) // it was taken out before
		} else {
			b.push(value{s.below(40), n})
		}
		b.check()
	}
	b.checkGets()
	b.drain()
	b.push(value{})
	b.check()
}

// P6.2: a queue has at most 5000 values; a value more changes nothing; when one is taken out there is room again.
func TestFull(t *testing.T) {
	b := newBoth(t)
	full := func() {
		t.Helper()
		if handle, e := b.q.Push(value{-1, -1}); handle != 0 || e != api.ErrFull {
			t.Fatalf("Push into %d values is %d, %d", b.q.Len(), handle, e)
		}
		b.check()
	}
	for i := range 5000 {
		b.push(value{i * 7 % 300, i})
	}
	full()
	b.set(17, value{-5, -5})
	full()
	b.pop()
	b.push(value{400, 0})
	full()
	b.remove(4000)
	b.push(value{-1, 0})
	full()
	b.pop()
	b.pop()
	b.push(value{150, 0})
	b.push(value{150, 1})
	full()
	b.drain()
}

// P6.4: All yields the values as they are when the loop begins, not when All is called, and each time anew.
func TestAll(t *testing.T) {
	b := newBoth(t)
	seq := b.q.All()
	for range seq {
		t.Error("something is yielded of an empty queue")
	}
	for _, key := range []int{4, 2, 9, 2, 0} {
		b.push(value{key, 0})
	}
	for range 2 {
		var l []item
		for handle, v := range seq {
			l = append(l, item{Handle: handle, Value: v})
		}
		if !slices.Equal(l, b.l.items) {
			t.Errorf("All yields %v, not %v", l, b.l.items)
		}
		b.pop()
		b.push(value{1, 1})
	}
	b.check()
}

// P6.4: the caller may change the queue during the loop, which goes on as it began.
func TestAllWhileChanging(t *testing.T) {
	changes := []func(*both, int64){
		func(b *both, handle int64) { b.push(value{0, 7}) },
		func(b *both, handle int64) { b.push(value{90, 7}) },
		func(b *both, handle int64) { b.pop() },
		func(b *both, handle int64) { b.remove(handle) },
		func(b *both, handle int64) { b.remove(b.l.next - handle) },
		func(b *both, handle int64) { b.set(handle, value{80, 8}) },
		func(b *both, handle int64) { b.set(b.l.next-handle, value{-1, 8}) },
		func(b *both, handle int64) { b.drain() },
	}
	for _, change := range changes {
		b := pushAll(t, 4, 2, 9, 2, 0, 5, 5, 3)
		want := slices.Clone(b.l.items)
		var l []item
		for handle, v := range b.q.All() {
			change(b, handle)
			l = append(l, item{Handle: handle, Value: v})
		}
		if !slices.Equal(l, want) {
			t.Errorf("All yields %v, not %v", l, want)
		}
		b.check()
		b.drain()
	}
}

// P6.4: a loop may end early, and begin within another one.
func TestAllLeft(t *testing.T) {
	b := pushAll(t, 3, 1, 2, 1)
	for stop := range 5 {
		var l []item
		for handle, v := range b.q.All() {
			if len(l) == stop {
				break
			}
			l = append(l, item{Handle: handle, Value: v})
		}
		if !slices.Equal(l, b.l.items[:stop]) {
			t.Errorf("All yields %v, up to %d", l, stop)
		}
	}
	seq, pairs := b.q.All(), 0
	for first := range seq {
		for second := range seq {
			if first != b.l.items[pairs/4].Handle || second != b.l.items[pairs%4].Handle {
				t.Errorf("pair %d is %d, %d", pairs, first, second)
			}
			pairs++
		}
	}
	if pairs != 16 {
		t.Errorf("there are %d pairs", pairs)
	}
	b.check()
}
