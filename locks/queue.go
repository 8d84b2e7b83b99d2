package locks

import (
	"iter"
	"slices"
)

// queue is a row: who comes to it stands last.
type queue[V any] struct {
	// row is short, so what stands first is taken away by moving all others.
	row []V
}

// empty tells whether nothing stands in the row.
func (q *queue[V]) empty() bool {
	return len(q.row) == 0
}

// add has a value more stand last.
func (q *queue[V]) add(value V) {
	q.row = append(q.row, value)
}

// all goes through the row from the first value on.
func (q *queue[V]) all() iter.Seq[V] {
	return slices.Values(q.row)
}

// leave takes the first value away and tells it, again and again, as long as it may leave. Each one is asked of when those ahead were told.
func (q *queue[V]) leave(may func(value V) bool) iter.Seq[V] {
	return func(yield func(value V) bool) {
		for !q.empty() && may(q.row[0]) {
			first := q.row[0]
			q.row = slices.Delete(q.row, 0, 1)
			if !yield(first) {
				return
			}
		}
	}
}
