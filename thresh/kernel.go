package thresh

import (
	"maps"
	"math"
	"slices"

	"thresh/api"
)

// constants is how many handles are there always: 0 and 1.
const constants = 2

func (k *Kernel) isVariable(i int) bool {
	return i >= 0 && i < k.diagrams.Vars()
}

func (k *Kernel) isAssignment(a int) bool {
	return a >= 0 && a < 1<<k.diagrams.Vars()
}

// hasEachOnce tells whether a list has each variable once, and nothing else.
func (k *Kernel) hasEachOnce(list []int) bool {
	if len(list) != k.diagrams.Vars() {
		return false
	}
	seen := 0
	for _, i := range list {
		if !k.isVariable(i) {
			return false
		}
		seen |= 1 << i
	}
	// As many numbers as variables leave one out, if one is there twice.
	return seen == 1<<len(list)-1
}

func (k *Kernel) join(op, f, g int) int {
	switch op {
	case api.And:
		return k.diagrams.And(f, g)
	case api.Or:
		return k.diagrams.Or(f, g)
	case api.Xor:
		return k.diagrams.Xor(f, g)
	default:
		return k.diagrams.Diff(f, g)
	}
}

// measure is what the calls have in common that tell a number of one function.
func (k *Kernel) measure(f int, tell func(root int) int) (int, api.Errno) {
	root, there := k.roots[f]
	if !there {
		return 0, api.ErrHandle
	}
	return tell(root), api.OK
}

// answer tells a function's handle. Whether it gets one or not, what was made on the way to it goes.
func (k *Kernel) answer(root int) (int, api.Errno) {
	defer k.sweep()
	if h, there := k.handles[root]; there {
		return h, api.OK
	}
	if len(k.roots) == constants+api.MaxHandles {
		return 0, api.ErrFull
	}
	h := k.next
	k.next++
	k.roots[h] = root
	k.handles[root] = h
	return h, api.OK
}

// sweep leaves the nodes that handles need, and no others.
func (k *Kernel) sweep() {
	k.diagrams.Sweep(slices.Sorted(maps.Values(k.roots))...)
}

func (k *Kernel) swap(level int) {
	k.diagrams.Swap(level)
	k.sweep()
}

// move brings a variable to a place, step by step, past one neighbour at a time.
func (k *Kernel) move(variable, place int) {
	for k.diagrams.Place(variable) > place {
		k.swap(k.diagrams.Place(variable) - 1)
	}
	for k.diagrams.Place(variable) < place {
		k.swap(k.diagrams.Place(variable))
	}
}

// bestPlace takes a variable through all places, and tells the first of those where Total is least.
func (k *Kernel) bestPlace(variable int) int {
	vars := k.diagrams.Vars()
	best := math.MaxInt
	for place := range vars {
		k.move(variable, place)
		// The place is the lesser part of the number: it tells only between equal totals.
		best = min(best, k.Total()*vars+place)
	}
	return best % vars
}
