// Package work contains the work lists by which fixed points are computed.
package work

import "iter"

// List contains items that are still to be handled. An item is handled once,
// however often it is added. The zero value is an empty list.
type List[T comparable] struct {
	items []T
	seen  map[T]bool
}

// Add adds an item, unless it was added before.
func (l *List[T]) Add(item T) {
	if l.seen[item] {
		return
	}
	if l.seen == nil {
		l.seen = map[T]bool{}
	}
	l.seen[item] = true
	l.items = append(l.items, item)
}

// All yields the items in the order in which they were added, and goes on
// with those that are added meanwhile.
func (l *List[T]) All() iter.Seq[T] {
	return func(yield func(T) bool) {
		for len(l.items) > 0 {
			item := l.items[0]
			l.items = l.items[1:]
			if !yield(item) {
				return
			}
		}
	}
}
