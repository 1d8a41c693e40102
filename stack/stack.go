// Package stack: a pile of anything: see doc/01-stack.md.
package stack

import "slices"

// Stack is a pile; places are counted from the bottom, which is 0.
type Stack[T any] struct {
	items []T
}

// New makes an empty pile.
func New[T any]() *Stack[T] { return &Stack[T]{} }

// Push puts x on top.
func (s *Stack[T]) Push(x T) { s.items = append(s.items, x) }

// Pop takes the last one away; false of an empty pile.
func (s *Stack[T]) Pop() (T, bool) { return s.Cut(len(s.items) - 1) }

// Top tells the last one; false of an empty pile.
func (s *Stack[T]) Top() (T, bool) { return s.At(len(s.items) - 1) }

// At tells the i-th one; false where there is none.
func (s *Stack[T]) At(i int) (T, bool) {
	if !s.holds(i) {
		var zero T
		return zero, false
	}
	return s.items[i], true
}

// Set puts x in the place of the i-th one; false where there is none.
func (s *Stack[T]) Set(i int, x T) bool {
	if !s.holds(i) {
		return false
	}
	s.items[i] = x
	return true
}

// Put makes x the i-th one and moves those from there on up; false past Len.
func (s *Stack[T]) Put(i int, x T) bool {
	if i < 0 || i > len(s.items) {
		return false
	}
	s.items = slices.Insert(s.items, i, x)
	return true
}

// Cut takes the i-th one away; false where there is none.
func (s *Stack[T]) Cut(i int) (T, bool) {
	x, ok := s.At(i)
	if ok {
		// slices.Delete clears the room it frees, so that nothing keeps alive what is gone.
		s.items = slices.Delete(s.items, i, i+1)
	}
	return x, ok
}

// Len tells how many there are.
func (s *Stack[T]) Len() int { return len(s.items) }

// All tells them from the bottom on, in memory of the answer's own.
func (s *Stack[T]) All() []T {
	all := make([]T, len(s.items))
	copy(all, s.items)
	return all
}

func (s *Stack[T]) holds(i int) bool { return i >= 0 && i < len(s.items) }
