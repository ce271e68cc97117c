package rules

import (
	"thresh/diagram"
	"thresh/program"
)

// Columns tells how many columns a relation has.
func (b *Base) Columns(rel int) int { return len(b.rels[rel].sizes) }

// Fits tells whether a list with a number for each column of a relation is a tuple of it: only such a one may be asked for, added or taken away.
func (b *Base) Fits(rel int, list []int) bool {
	for column, size := range b.rels[rel].sizes {
		if list[column] < 0 || list[column] >= size {
			return false
		}
	}
	return true
}

// IsFact tells whether a tuple is a fact.
func (b *Base) IsFact(rel int, tuple []int) bool {
	return b.diagrams.Eval(b.rels[rel].facts, assignmentOf(tuple))
}

// Facts tells how many facts there are.
func (b *Base) Facts() int {
	n := 0
	for i := range b.rels {
		r := &b.rels[i]
		for range b.diagrams.Trues(r.facts, r.vars()) {
			n++
		}
	}
	return n
}

// Add makes a tuple a fact.
func (b *Base) Add(rel int, tuple []int) {
	b.setFacts(rel, b.diagrams.Or(b.rels[rel].facts, b.alone(tuple)))
}

// Remove makes a tuple no fact.
func (b *Base) Remove(rel int, tuple []int) {
	b.setFacts(rel, b.diagrams.Diff(b.rels[rel].facts, b.alone(tuple)))
}

func (b *Base) setFacts(rel, facts int) {
	r := &b.rels[rel]
	r.facts = facts
	b.work(r.layer)
}

// alone answers the function that is true of one tuple.
func (b *Base) alone(tuple []int) int {
	f := diagram.True
	for column, n := range tuple {
		f = b.diagrams.And(f, b.equal(column, program.Term{Number: n}))
	}
	return f
}
