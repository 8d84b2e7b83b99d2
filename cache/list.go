package cache

import "iter"

// list is linked both ways.
type list[V any] struct {
	// ring has no value: behind it the first item stands, ahead of it the last one.
	ring *item[V]
}

// item is a value of a list.
type item[V any] struct {
	value         V
	ahead, behind *item[V]
}

// newList tells a list of nothing.
func newList[V any]() list[V] {
	ring := &item[V]{}
	ring.ahead, ring.behind = ring, ring
	return list[V]{ring: ring}
}

// add has a value more stand first.
func (l list[V]) add(value V) *item[V] {
	i := &item[V]{value: value}
	l.lay(i)
	return i
}

// lay has an item that stands in no list stand first.
func (l list[V]) lay(i *item[V]) {
	i.ahead, i.behind = l.ring, l.ring.behind
	i.ahead.behind, i.behind.ahead = i, i
}

// cut takes an item out of its list.
func (i *item[V]) cut() {
	i.ahead.behind, i.behind.ahead = i.behind, i.ahead
}

// forward goes through all items from the first one on. The one that is told may be cut out.
func (l list[V]) forward() iter.Seq[*item[V]] {
	return func(yield func(i *item[V]) bool) {
		for i := l.ring.behind; i != l.ring; {
			next := i.behind
			if !yield(i) {
				return
			}
			i = next
		}
	}
}

// backward goes through all items from the last one on. The one that is told may be cut out.
func (l list[V]) backward() iter.Seq[*item[V]] {
	return func(yield func(i *item[V]) bool) {
		for i := l.ring.ahead; i != l.ring; {
			next := i.ahead
			if !yield(i) {
				return
			}
			i = next
		}
	}
}
