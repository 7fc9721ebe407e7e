package heaps

import "groundling/api"

// Load returns the queue with a state.
func Load[T any](less func(a, b T) bool, s api.HpState[T]) (*Queue[T], api.Errno) {
	if less == nil {
		return nil, api.ErrNil
	}
	if len(s.Items) > api.MaxHeap {
		return nil, api.ErrLong
	}
	if !handlesFit(s) {
		return nil, api.ErrRange
	}
	q := New(less)
	q.next = s.Next
	for _, item := range s.Items {
		if _, ok := q.tree.places[item.Handle]; ok {
			return nil, api.ErrTwice
		}
		q.tree.Push(item)
	}
	// What ascends is a heap as it is.
	if !q.tree.ascends() {
		return nil, api.ErrForm
	}
	return q, api.OK
}

// Save returns the state.
func (q *Queue[T]) Save() api.HpState[T] {
	if !q.isMade() {
		return api.HpState[T]{}
	}
	return api.HpState[T]{Next: q.next, Items: q.tree.ascending()}
}

// handlesFit returns whether the next handle is one that a queue may have, and the handles of the values may have been given before it.
func handlesFit[T any](s api.HpState[T]) bool {
	if s.Next < 1 || s.Next > api.MaxHandle {
		return false
	}
	for _, item := range s.Items {
		if item.Handle < 1 || item.Handle >= s.Next {
			return false
		}
	}
	return true
}
