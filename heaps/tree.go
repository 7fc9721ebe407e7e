package heaps

import (
	"cmp"
	"slices"

	"groundling/api"
)

// tree is the values of a queue, as package container/heap wants them: it calls Len, Less, Swap, Push and Pop.
type tree[T any] struct {
	less   func(a, b T) bool
	items  []api.HpItem[T]
	places map[int64]int // where in items the value with a handle is
}

func (t *tree[T]) Len() int { return len(t.items) }

func (t *tree[T]) Less(i, j int) bool {
	return t.has(i, j) && t.compare(t.items[i], t.items[j]) < 0
}

func (t *tree[T]) Swap(i, j int) {
	if !t.has(i, j) {
		return
	}
	t.items[i], t.items[j] = t.items[j], t.items[i]
	t.places[t.items[i].Handle], t.places[t.items[j].Handle] = i, j
}

func (t *tree[T]) Push(x any) {
	item := x.(api.HpItem[T])
	t.places[item.Handle] = len(t.items)
	t.items = append(t.items, item)
}

func (t *tree[T]) Pop() any {
	last := len(t.items) - 1
	if last < 0 {
		return api.HpItem[T]{}
	}
	item := t.items[last]
	t.items[last] = api.HpItem[T]{} // or the memory would keep the value
	t.items = t.items[:last]
	delete(t.places, item.Handle)
	return item
}

// has returns whether there are values at both places. There may be none where package container/heap expects one, if less is a function that takes values out of the queue.
func (t *tree[T]) has(i, j int) bool { return max(i, j) < len(t.items) }

// compare returns -1 if a comes before b, and 1 if it comes after it.
func (t *tree[T]) compare(a, b api.HpItem[T]) int {
	switch {
	case says(t.less, a.Value, b.Value):
		return -1
	case says(t.less, b.Value, a.Value):
		return 1
	}
	return cmp.Compare(a.Handle, b.Handle)
}

// ascends returns whether the items are in the order of the queue.
func (t *tree[T]) ascends() bool { return slices.IsSortedFunc(t.items, t.compare) }

// ascending returns the items in the order of the queue.
func (t *tree[T]) ascending() []api.HpItem[T] {
	l := slices.Clone(t.items)
	slices.SortFunc(l, t.compare)
	return l
}

// says returns whether less says that a is less than b. A less that panics does not say so: the functions of the package return whatever less is.
func says[T any](less func(a, b T) bool, a, b T) (yes bool) {
	defer func() { recover() }()
	return less(a, b)
}
