// Package set holds what graph and locks share: sets, and lists of which some go.
package set

import (
	"cmp"
	"maps"
	"slices"
)

// Set is things, each of them once.
type Set[T cmp.Ordered] map[T]struct{}

// Of answers the set of these.
func Of[T cmp.Ordered](l ...T) Set[T] {
	s := Set[T]{}
	s.Add(l...)
	return s
}

// Add puts these into the set.
func (s Set[T]) Add(l ...T) {
	for _, x := range l {
		s[x] = struct{}{}
	}
}

// Drop takes out all that are in the other set.
func (s Set[T]) Drop(other Set[T]) {
	for x := range s {
		if other.Has(x) {
			delete(s, x)
		}
	}
}

// Has tells whether x is in the set.
func (s Set[T]) Has(x T) bool {
	_, ok := s[x]
	return ok
}

// Rising answers what is in the set, in order.
func (s Set[T]) Rising() []T {
	return slices.Sorted(maps.Keys(s))
}

// Without answers the list without what goes, in new memory.
func Without[T any](l []T, goes func(T) bool) []T {
	var rest []T
	for _, x := range l {
		if !goes(x) {
			rest = append(rest, x)
		}
	}
	return rest
}
