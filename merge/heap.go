package merge

import (
	"cmp"
	"container/heap"
)

// rest is what is left of one of several lists, at least one item, and which list it is.
type rest[T any] struct {
	place int
	items []T
}

// front is a heap of such rests: on top the one that begins with the least item; of several such the first list's.
type front[T any] struct {
	rests   []*rest[T]
	compare func(a, b T) int
}

// Len: how many lists have something left.
func (f *front[T]) Len() int {
	return len(f.rests)
}

// Less: does one rest come ahead of another one?
func (f *front[T]) Less(i, j int) bool {
	a, b := f.rests[i], f.rests[j]
	return cmp.Or(f.compare(a.items[0], b.items[0]), cmp.Compare(a.place, b.place)) < 0
}

// Swap: each at the other one's place.
func (f *front[T]) Swap(i, j int) {
	f.rests[i], f.rests[j] = f.rests[j], f.rests[i]
}

// Push: a rest more, at the end.
func (f *front[T]) Push(x any) {
	f.rests = append(f.rests, x.(*rest[T]))
}

// Pop: the rest at the end, taken away.
func (f *front[T]) Pop() any {
	end := len(f.rests) - 1
	r := f.rests[end]
	f.rests = f.rests[:end]
	return r
}

// put: a rest more, if anything is left in it.
func (f *front[T]) put(r *rest[T]) {
	if len(r.items) > 0 {
		heap.Push(f, r)
	}
}

// merged: all items of lists that rise, rising; of those that are alike the first list's comes first.
func merged[T any](compare func(a, b T) int, lists ...[]T) []T {
	f := &front[T]{compare: compare}
	for place, items := range lists {
		f.put(&rest[T]{place: place, items: items})
	}
	var all []T
	for f.Len() > 0 {
		r := heap.Pop(f).(*rest[T])
		all = append(all, r.items[0])
		r.items = r.items[1:]
		f.put(r)
	}
	return all
}
