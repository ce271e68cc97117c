// Package ordered has sets that know in which order their things came.
package ordered

import (
	"iter"
	"slices"
)

// Set has things, each once. Set[T]{} is a set without any.
type Set[T comparable] struct {
	things []T
	places map[T]int // where each stands in things
}

// Add tells the place of a thing, which is behind all others if it was not there.
func (s *Set[T]) Add(thing T) int {
	if place, there := s.places[thing]; there {
		return place
	}
	if s.places == nil {
		s.places = map[T]int{}
	}
	place := len(s.things)
	s.places[thing] = place
	s.things = append(s.things, thing)
	return place
}

// Place tells where a thing stands, and whether it is there.
func (s *Set[T]) Place(thing T) (int, bool) {
	place, there := s.places[thing]
	return place, there
}

// Len tells how many things there are.
func (s *Set[T]) Len() int { return len(s.things) }

// All goes through the things and their places, in the order in which they came.
func (s *Set[T]) All() iter.Seq2[int, T] { return slices.All(s.things) }
