package program

import "thresh/api"

// forbidUnsafe gives up at the first clause with a VAR that nothing binds.
func (m *meaning) forbidUnsafe() {
	for i, c := range m.clauses {
		asked, bound := c.Head.Vars(), 0
		for _, l := range c.Lits {
			if l.Not {
				asked |= l.Vars()
			} else {
				bound |= l.Vars()
			}
		}
		if asked&^bound != 0 {
			giveUp(api.ErrUnsafe, m.lines[i])
		}
	}
}

// forbidCircles gives up at the first rule that hangs on its own contrary.
func (m *meaning) forbidCircles() {
	hangs := m.hanging()
	for i, c := range m.clauses {
		for _, l := range c.Lits {
			if l.Not && hangs[l.Rel]>>c.Head.Rel&1 == 1 {
				giveUp(api.ErrStrata, m.lines[i])
			}
		}
	}
}

// hanging tells for each rel the set of those on which it hangs (rel i as bit i).
func (m *meaning) hanging() []int {
	sets := make([]int, m.names.Len())
	for i := range sets {
		sets[i] = 1 << i
	}
	m.spread(sets, func(set int, l Lit) int { return set | sets[l.Rel] })
	return sets
}

// layers tells the layer of each rel. If a rel hung on its own contrary, there would be no end to it.
func (m *meaning) layers() []int {
	layers := make([]int, m.names.Len())
	m.spread(layers, func(layer int, l Lit) int {
		if l.Not {
			return max(layer, layers[l.Rel]+1)
		}
		return max(layer, layers[l.Rel])
	})
	return layers
}

// spread lets the value of each rule's head grow by its lits, until no value grows any more.
func (m *meaning) spread(values []int, grow func(value int, l Lit) int) {
	for changed := true; changed; {
		changed = false
		for _, c := range m.clauses {
			for _, l := range c.Lits {
				old := values[c.Head.Rel]
				values[c.Head.Rel] = grow(old, l)
				changed = changed || values[c.Head.Rel] != old
			}
		}
	}
}
