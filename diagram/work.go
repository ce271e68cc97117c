package diagram

// Var answers a variable's function.
func (s *Store) Var(i int) int { return s.number(i, False, True) }

// Ite answers g where f is true, h elsewhere: all operations are made of it.
func (s *Store) Ite(f, g, h int) int {
	switch {
	case f == True || g == h:
		return g
	case f == False:
		return h
	case g == True && h == False:
		return f
	}
	asked := question{f, g, h}
	if r, there := s.known[asked]; there {
		return r
	}
	top := s.order[min(s.level(f), s.level(g), s.level(h))]
	f0, f1 := s.split(f, top)
	g0, g1 := s.split(g, top)
	h0, h1 := s.split(h, top)
	r := s.number(top, s.Ite(f0, g0, h0), s.Ite(f1, g1, h1))
	s.known[asked] = r
	return r
}

// Not answers where f is not.
func (s *Store) Not(f int) int { return s.Ite(f, False, True) }

// The operations whose two sides may change places put the older side first: asked both ways they are then known from the first time.

// And answers where both are.
func (s *Store) And(f, g int) int { return s.Ite(min(f, g), max(f, g), False) }

// Or answers where one at least is.
func (s *Store) Or(f, g int) int { return s.Ite(min(f, g), True, max(f, g)) }

// Xor answers where just one is.
func (s *Store) Xor(f, g int) int { return s.Ite(min(f, g), s.Not(max(f, g)), max(f, g)) }

// Diff answers where f is and g is not.
func (s *Store) Diff(f, g int) int { return s.Ite(g, False, f) }

// fold works a function from its constants upwards: what a node comes to is joined of what its branches come to. done has what the constants come to, and gets each node once.
func (s *Store) fold(f int, done map[int]int, join func(variable, low, high int) int) int {
	if r, there := done[f]; there {
		return r
	}
	n := s.nodes[f]
	r := join(n.Variable, s.fold(n.Low, done, join), s.fold(n.High, done, join))
	done[f] = r
	return r
}

// Exists answers where f is for some values of the variables of a set (variable i as bit i).
func (s *Store) Exists(f, vars int) int {
	done := map[int]int{False: False, True: True}
	return s.fold(f, done, func(variable, low, high int) int {
		if vars>>variable&1 == 1 {
			return s.Or(low, high)
		}
		return s.number(variable, low, high)
	})
}

// Replace answers f with the variable to[i] in the place of each variable i.
func (s *Store) Replace(f int, to []int) int {
	by := make([]int, len(to))
	for i, variable := range to {
		by[i] = s.Var(variable)
	}
	return s.Substitute(f, by)
}

// Substitute answers f with the function by[i] in the place of each variable i, all at once.
func (s *Store) Substitute(f int, by []int) int {
	done := map[int]int{False: False, True: True}
	return s.fold(f, done, func(variable, low, high int) int {
		// What comes in the variable's place may stand below some of the branches' variables.
		return s.Ite(by[variable], high, low)
	})
}

// Eval tells f under an assignment (variable i as bit i).
func (s *Store) Eval(f, assignment int) bool {
	for f > True {
		n := s.nodes[f]
		f = n.Low
		if assignment>>n.Variable&1 == 1 {
			f = n.High
		}
	}
	return f == True
}

// Count tells of how many assignments f is true.
func (s *Store) Count(f int) int {
	done := map[int]int{False: 0, True: 1 << s.Vars()}
	return s.fold(f, done, func(_, low, high int) int {
		// Neither branch hangs on the node's variable: of each just one half counts.
		return low/2 + high/2
	})
}

// Support tells the set of the variables on which f hangs.
func (s *Store) Support(f int) int {
	set := 0
	for _, n := range s.Nodes(f) {
		set |= 1 << n.Variable
	}
	return set
}

// Size tells how many nodes a function has.
func (s *Store) Size(f int) int {
	size := 0
	for range s.Nodes(f) {
		size++
	}
	return size
}
