// Package diagram keeps functions of truth values as decision diagrams, ordered and reduced, each sub-function once.
package diagram

import (
	"iter"
	"slices"
)

// The functions that are constant: numbers of no node, there always.
const (
	False = 0
	True  = 1
)

// Node is a function that is not constant: what it is where the first variable it hangs on is false (Low) and true (High).
type Node struct {
	Variable, Low, High int
}

// question is what Ite was asked.
type question struct {
	f, g, h int
}

// Store has the nodes of many functions. A function goes by the number of its node, which is never given again.
type Store struct {
	order   []int // the variables, from the top down
	place   []int // by variable: where it stands in order
	nodes   map[int]Node
	numbers map[Node]int
	next    int
	known   map[question]int // what Ite answered since the last Sweep
}

// New makes a store of so many variables, ordered by their numbers.
func New(vars int) *Store {
	s := &Store{
		nodes:   map[int]Node{},
		numbers: map[Node]int{},
		next:    True + 1,
		known:   map[question]int{},
	}
	for i := range vars {
		s.order = append(s.order, i)
		s.place = append(s.place, i)
	}
	return s
}

// Vars tells how many variables there are.
func (s *Store) Vars() int { return len(s.order) }

// Len tells how many nodes are kept.
func (s *Store) Len() int { return len(s.nodes) }

// Order tells the variables from the top down.
func (s *Store) Order() []int { return slices.Clone(s.order) }

// Place tells where a variable stands in the order.
func (s *Store) Place(variable int) int { return s.place[variable] }

// number finds a node or makes it. This is the only way to a new node, so one function never has two numbers.
func (s *Store) number(variable, low, high int) int {
	if low == high {
		return low
	}
	n := Node{variable, low, high}
	if f, there := s.numbers[n]; there {
		return f
	}
	f := s.next
	s.next++
	s.set(f, n)
	return f
}

func (s *Store) set(f int, n Node) {
	s.nodes[f] = n
	s.numbers[n] = f
}

// level tells where a function's first variable stands; constants stand below all variables.
func (s *Store) level(f int) int {
	if f <= True {
		return len(s.order)
	}
	return s.place[s.nodes[f].Variable]
}

// split tells what a function is where a variable is false and where it is true; no variable above that one may be in it.
func (s *Store) split(f, variable int) (int, int) {
	if !s.starts(f, variable) {
		return f, f
	}
	n := s.nodes[f]
	return n.Low, n.High
}

// starts tells whether a variable is a function's first one.
func (s *Store) starts(f, variable int) bool {
	return f > True && s.nodes[f].Variable == variable
}

// Nodes goes through the nodes of some functions, those that several share once.
func (s *Store) Nodes(roots ...int) iter.Seq2[int, Node] {
	return func(yield func(int, Node) bool) {
		seen := map[int]struct{}{}
		waiting := slices.Clone(roots)
		for len(waiting) > 0 {
			last := len(waiting) - 1
			f := waiting[last]
			waiting = waiting[:last]
			if _, there := seen[f]; there || f <= True {
				continue
			}
			seen[f] = struct{}{}
			n := s.nodes[f]
			if !yield(f, n) {
				return
			}
			waiting = append(waiting, n.High, n.Low)
		}
	}
}

// Trues goes through the assignments under which a function is true, of the first so many variables of the order (it may hang on no others, which are told as false). They come sorted by the values of these variables, from the top down, false ahead of true.
func (s *Store) Trues(f, vars int) iter.Seq[int] {
	return func(yield func(int) bool) {
		s.tell(f, 0, s.order[:vars], yield)
	}
}

// tell tells whether to go on.
func (s *Store) tell(f, assignment int, vars []int, yield func(int) bool) bool {
	if f == False {
		return true
	}
	if len(vars) == 0 {
		return yield(assignment)
	}
	low, high := s.split(f, vars[0])
	return s.tell(low, assignment, vars[1:], yield) && s.tell(high, assignment|1<<vars[0], vars[1:], yield)
}

// Sweep takes out all that the functions named do not need.
func (s *Store) Sweep(roots ...int) {
	// Answers that are remembered may name nodes that go now.
	clear(s.known)
	needed := map[int]struct{}{}
	for f := range s.Nodes(roots...) {
		needed[f] = struct{}{}
	}
	for f, n := range s.nodes {
		if _, there := needed[f]; !there {
			delete(s.nodes, f)
			delete(s.numbers, n)
		}
	}
}
