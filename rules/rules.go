// Package rules finds what follows from a program. A relation is a function of the bits of its columns, which is kept as a decision diagram.
package rules

import (
	"iter"

	"thresh/api"
	"thresh/diagram"
	"thresh/ordered"
	"thresh/program"
)

// bits is how many a number below api.MaxSize has.
const bits = 3

// Base has relations with their tuples.
type Base struct {
	names    ordered.Set[string]
	rels     []relation
	diagrams *diagram.Store
}

type relation struct {
	columns int
	layer   int
	tuples  int // the function that is true of them
}

// Work makes a base of all that follows from a program.
func Work(p *program.Program) *Base {
	b := &Base{diagrams: diagram.New(bits * max(api.MaxColumns, api.MaxTerms))}
	layers := 0
	for _, r := range p.Rels {
		b.names.Add(r.Name)
		b.rels = append(b.rels, relation{r.Columns, r.Layer, diagram.False})
		layers = max(layers, r.Layer+1)
	}
	b.addFacts(p.Clauses)
	for layer := range layers {
		b.workLayer(layer, p.Clauses)
	}
	b.sweep(nil, nil)
	return b
}

// Names goes through the relations' places and names.
func (b *Base) Names() iter.Seq2[int, string] { return b.names.All() }

// Place tells where a relation stands, and whether it is there. By its place it is asked for.
func (b *Base) Place(name string) (int, bool) { return b.names.Place(name) }

// Layer tells a relation's layer.
func (b *Base) Layer(rel int) int { return b.rels[rel].layer }

// Tuples goes through a relation's tuples, sorted. Each is a list of its own.
func (b *Base) Tuples(rel int) iter.Seq[[]int] {
	r := b.rels[rel]
	return func(yield func([]int) bool) {
		// The bits stand in the order column by column, the greatest first: so the assignments come as the tuples are sorted.
		for assignment := range b.diagrams.Trues(r.tuples, bits*r.columns) {
			if !yield(tuple(assignment, r.columns)) {
				return
			}
		}
	}
}

// tuple tells the numbers whose bits an assignment gives.
func tuple(assignment, columns int) []int {
	list := make([]int, columns)
	for i := range bits * columns {
		list[i/bits] = list[i/bits]<<1 | assignment>>i&1
	}
	return list
}
