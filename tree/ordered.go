package tree

import (
	"cmp"
	"iter"
	"maps"
	"slices"
)

// ordered is a map that is gone through by its keys, rising.
type ordered[K cmp.Ordered, V any] map[K]V

// rising goes through all keys and what they lead to.
func (o ordered[K, V]) rising() iter.Seq2[K, V] {
	return func(yield func(key K, value V) bool) {
		for _, key := range slices.Sorted(maps.Keys(o)) {
			if !yield(key, o[key]) {
				return
			}
		}
	}
}
