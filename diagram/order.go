package diagram

import "slices"

// Swap lets the variables at the places level and level + 1 of the order change places. A node keeps its number and its function, so whoever knows functions by numbers need not be told.
func (s *Store) Swap(level int) {
	upper, lower := s.order[level], s.order[level+1]
	turning := s.joints(upper, lower)
	s.order[level], s.order[level+1] = lower, upper
	s.place[upper], s.place[lower] = level+1, level
	for _, f := range turning {
		s.turn(f, upper, lower)
	}
}

// joints lists the nodes of the upper variable with a branch of the lower one: no others hang on which of the two comes first. They are listed ahead of the work, because that stores new nodes.
func (s *Store) joints(upper, lower int) []int {
	var list []int
	for f, n := range s.nodes {
		if n.Variable == upper && (s.starts(n.Low, lower) || s.starts(n.High, lower)) {
			list = append(list, f)
		}
	}
	slices.Sort(list)
	return list
}

// turn puts the lower variable on top of a node. What it becomes can be no other node yet: its function has had this number all along.
func (s *Store) turn(f, upper, lower int) {
	old := s.nodes[f]
	low0, low1 := s.split(old.Low, lower)
	high0, high1 := s.split(old.High, lower)
	delete(s.numbers, old)
	s.set(f, Node{lower, s.number(upper, low0, high0), s.number(upper, low1, high1)})
}
