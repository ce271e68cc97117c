// Package rules finds what follows from a program. A relation is a function of the bits of its columns, which is kept as a decision diagram.
package rules

import (
	"iter"

	"thresh/api"
	"thresh/diagram"
	"thresh/ordered"
	"thresh/program"
)

// bits is how many a number below api.MaxSize has.
const bits = 3

// Base has relations with their tuples, and the facts and rules from which these follow.
type Base struct {
	names    ordered.Set[string]
	rels     []relation
	rules    []program.Clause
	diagrams *diagram.Store
}

type relation struct {
	sizes  []int // by column
	layer  int
	facts  int         // the function that is true of them
	tuples int         // that of all that follow
	ranks  map[int]int // by the assignment of a tuple's bits
}

// vars tells of how many of the diagrams' variables a relation is a function.
func (r *relation) vars() int { return bits * len(r.sizes) }

// Work makes a base of all that follows from a program.
func Work(p *program.Program) *Base {
	b := &Base{diagrams: diagram.New(bits * max(api.MaxColumns, api.MaxTerms))}
	for _, r := range p.Rels {
		b.names.Add(r.Name)
		b.rels = append(b.rels, relation{r.Sizes, r.Layer, diagram.False, diagram.False, map[int]int{}})
	}
	for _, c := range p.Clauses {
		if len(c.Lits) > 0 {
			b.rules = append(b.rules, c)
			continue
		}
		r := &b.rels[c.Head.Rel]
		r.facts = b.diagrams.Or(r.facts, b.heads(diagram.True, c.Head))
	}
	b.work(0)
	return b
}

// Names goes through the relations' places and names.
func (b *Base) Names() iter.Seq2[int, string] { return b.names.All() }

// Place tells where a relation stands, and whether it is there. By its place it is asked for.
func (b *Base) Place(name string) (int, bool) { return b.names.Place(name) }

// Layer tells a relation's layer.
func (b *Base) Layer(rel int) int { return b.rels[rel].layer }

// Tuples goes through a relation's tuples, sorted. Each is a list of its own.
func (b *Base) Tuples(rel int) iter.Seq[[]int] {
	r := b.rels[rel]
	return func(yield func([]int) bool) {
		// The bits stand in the order column by column, the greatest first: so the assignments come as the tuples are sorted.
		for assignment := range b.diagrams.Trues(r.tuples, r.vars()) {
			if !yield(tupleOf(assignment, len(r.sizes))) {
				return
			}
		}
	}
}

// Rank tells in which round of its layer a tuple came (0: it is a fact), and whether it follows at all.
func (b *Base) Rank(rel int, tuple []int) (int, bool) {
	rank, there := b.rels[rel].ranks[assignmentOf(tuple)]
	return rank, there
}
