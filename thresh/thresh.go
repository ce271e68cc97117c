// Package thresh: decision diagrams, and rules that are worked by them: see DOC.md.
package thresh

import (
	"thresh/api"
	"thresh/diagram"
	"thresh/rules"
)

// Kernel has functions of truth values.
type Kernel struct {
	diagrams *diagram.Store
	roots    map[int]int // by handle: the number of its function's node
	handles  map[int]int // the other way round
	next     int         // the least handle that was never given
}

// New makes a kernel (P3).
func New(vars int) (*Kernel, api.Errno) {
	if vars < 1 || vars > api.MaxVars {
		return nil, api.ErrArg
	}
	return &Kernel{
		diagrams: diagram.New(vars),
		roots:    map[int]int{0: diagram.False, 1: diagram.True},
		handles:  map[int]int{diagram.False: 0, diagram.True: 1},
		next:     constants,
	}, api.OK
}

// Var answers a variable's function (P3).
func (k *Kernel) Var(i int) (int, api.Errno) {
	if !k.isVariable(i) {
		return 0, api.ErrArg
	}
	return k.answer(k.diagrams.Var(i))
}

// Not answers the contrary (P3).
func (k *Kernel) Not(f int) (int, api.Errno) {
	root, there := k.roots[f]
	if !there {
		return 0, api.ErrHandle
	}
	return k.answer(k.diagrams.Not(root))
}

// Apply answers what an operation makes of two functions (P3).
func (k *Kernel) Apply(op int, f int, g int) (int, api.Errno) {
	if op < api.And || op > api.Diff {
		return 0, api.ErrArg
	}
	root, there := k.roots[f]
	other, too := k.roots[g]
	if !there || !too {
		return 0, api.ErrHandle
	}
	return k.answer(k.join(op, root, other))
}

// Ite answers g where f is, h elsewhere (P3).
func (k *Kernel) Ite(f int, g int, h int) (int, api.Errno) {
	asked, there := k.roots[f]
	yes, yesThere := k.roots[g]
	no, noThere := k.roots[h]
	if !there || !yesThere || !noThere {
		return 0, api.ErrHandle
	}
	return k.answer(k.diagrams.Ite(asked, yes, no))
}

// Exists answers where f is for some values of variables (P3).
func (k *Kernel) Exists(f int, vars int) (int, api.Errno) {
	// A set of variables is written as the assignment under which just these are true.
	if !k.isAssignment(vars) {
		return 0, api.ErrArg
	}
	root, there := k.roots[f]
	if !there {
		return 0, api.ErrHandle
	}
	return k.answer(k.diagrams.Exists(root, vars))
}

// Replace answers f of other variables (P3).
func (k *Kernel) Replace(f int, to []int) (int, api.Errno) {
	if !k.hasEachOnce(to) {
		return 0, api.ErrArg
	}
	root, there := k.roots[f]
	if !there {
		return 0, api.ErrHandle
	}
	return k.answer(k.diagrams.Replace(root, to))
}

// Eval tells f under an assignment (P4).
func (k *Kernel) Eval(f int, assignment int) (bool, api.Errno) {
	if !k.isAssignment(assignment) {
		return false, api.ErrArg
	}
	root, there := k.roots[f]
	if !there {
		return false, api.ErrHandle
	}
	return k.diagrams.Eval(root, assignment), api.OK
}

// Count tells of how many assignments f is true (P4).
func (k *Kernel) Count(f int) (int, api.Errno) {
	return k.measure(f, k.diagrams.Count)
}

// Support tells on which variables f hangs (P4).
func (k *Kernel) Support(f int) (int, api.Errno) {
	return k.measure(f, k.diagrams.Support)
}

// Size tells how many nodes f has (P4).
func (k *Kernel) Size(f int) (int, api.Errno) {
	return k.measure(f, k.diagrams.Size)
}

// Total tells how many nodes all have (P4).
func (k *Kernel) Total() int {
	// Each call sweeps behind itself: no other nodes are kept.
	return k.diagrams.Len()
}

// Order tells the order of the variables (P4).
func (k *Kernel) Order() []int { return k.diagrams.Order() }

// Swap lets two neighbours change places (P4).
func (k *Kernel) Swap(level int) api.Errno {
	if level < 0 || level > k.diagrams.Vars()-2 {
		return api.ErrArg
	}
	k.swap(level)
	return api.OK
}

// Sift puts a variable where Total is least (P4).
func (k *Kernel) Sift(i int) api.Errno {
	if !k.isVariable(i) {
		return api.ErrArg
	}
	k.move(i, k.bestPlace(i))
	return api.OK
}

// Drop drops a handle (P4).
func (k *Kernel) Drop(f int) api.Errno {
	root, there := k.roots[f]
	if !there || f < constants {
		return api.ErrHandle
	}
	delete(k.roots, f)
	delete(k.handles, root)
	k.sweep()
	return api.OK
}

// Engine has relations, facts and rules.
type Engine struct {
	base *rules.Base
}

// Check tells what is wrong with a text (P5).
func Check(text string) api.Fault {
	_, fault := read(text)
	return fault
}

// Print prints a text (P5).
func Print(text string) (string, api.Fault) {
	p, fault := read(text)
	if p == nil {
		return "", fault
	}
	return p.Print(), fault
}

// Load makes an engine of a text (P6).
func Load(text string) (*Engine, api.Fault) {
	p, fault := read(text)
	if p == nil {
		return nil, fault
	}
	return &Engine{rules.Work(p)}, fault
}

// Relations tells the relations (P6).
func (e *Engine) Relations() []string {
	var list []string
	for _, name := range e.base.Names() {
		list = append(list, name)
	}
	return list
}

// Layer tells a relation's layer (P6).
func (e *Engine) Layer(rel string) (int, api.Errno) {
	place, there := e.base.Place(rel)
	if !there {
		return 0, api.ErrName
	}
	return e.base.Layer(place), api.OK
}

// Tuples tells a relation's tuples (P6).
func (e *Engine) Tuples(rel string) ([][]int, api.Errno) {
	place, there := e.base.Place(rel)
	if !there {
		return nil, api.ErrName
	}
	var list [][]int
	for tuple := range e.base.Tuples(place) {
		list = append(list, tuple)
	}
	return list, api.OK
}

// Rank tells in which round a tuple came (P7).
func (e *Engine) Rank(rel string, tuple []int) (int, api.Errno) {
	place, err := e.place(rel, tuple)
	if err != api.OK {
		return 0, err
	}
	rank, there := e.base.Rank(place, tuple)
	if !there {
		return 0, api.ErrNone
	}
	return rank, api.OK
}

// Add adds a fact (P7).
func (e *Engine) Add(rel string, tuple []int) api.Errno {
	place, err := e.place(rel, tuple)
	switch {
	case err != api.OK:
		return err
	case e.base.IsFact(place, tuple):
		return api.ErrTwice
	case e.base.Facts() == api.MaxFacts:
		return api.ErrMany
	}
	e.base.Add(place, tuple)
	return api.OK
}

// Remove takes a fact away (P7).
func (e *Engine) Remove(rel string, tuple []int) api.Errno {
	place, err := e.place(rel, tuple)
	switch {
	case err != api.OK:
		return err
	case !e.base.IsFact(place, tuple):
		return api.ErrNone
	}
	e.base.Remove(place, tuple)
	return api.OK
}
