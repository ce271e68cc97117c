package rules

import (
	"slices"

	"thresh/diagram"
	"thresh/program"
)

// rule is a clause while its layer is worked.
type rule struct {
	program.Clause
	holds []int // by lit: where it holds, by the bits of the clause's VARs
}

// work finds anew what follows in a layer and in all above it. Those below it do not hang on it.
func (b *Base) work(layer int) {
	// Each layer has a relation: so there are no more layers than these.
	for ; layer < len(b.rels); layer++ {
		b.workLayer(layer)
	}
	b.sweep(nil, nil)
}

// workLayer goes round by round until one brings nothing.
func (b *Base) workLayer(layer int) {
	b.leaveFacts(layer)
	rules := b.begin(layer)
	fresh := b.firstRound(rules)
	for rank := 1; b.addFresh(fresh, rank); rank++ {
		fresh = b.nextRound(rules, fresh)
		b.sweep(rules, fresh)
	}
}

// leaveFacts takes all tuples of a layer away that are no facts.
func (b *Base) leaveFacts(layer int) {
	for i := range b.rels {
		r := &b.rels[i]
		if r.layer == layer {
			r.tuples = diagram.False
			clear(r.ranks)
			b.add(r, r.facts, 0)
		}
	}
}

func (b *Base) add(r *relation, tuples, rank int) {
	r.tuples = b.diagrams.Or(r.tuples, tuples)
	for assignment := range b.diagrams.Trues(tuples, r.vars()) {
		r.ranks[assignment] = rank
	}
}

// begin tells the rules with a head of a layer, as they hold ahead of the first round.
func (b *Base) begin(layer int) []rule {
	var rules []rule
	for _, c := range b.rules {
		if b.rels[c.Head.Rel].layer != layer {
			continue
		}
		r := rule{Clause: c}
		for _, l := range c.Lits {
			f := b.where(b.rels[l.Rel].tuples, l.Atom)
			if l.Not {
				f = b.diagrams.Not(f)
			}
			r.holds = append(r.holds, f)
		}
		rules = append(rules, r)
	}
	return rules
}

// firstRound tells by rel which tuples come in the first round.
func (b *Base) firstRound(rules []rule) []int {
	found := slices.Repeat([]int{diagram.False}, len(b.rels))
	for _, r := range rules {
		b.find(found, r, diagram.True)
	}
	return b.withoutOld(found)
}

// nextRound tells by rel which tuples come in a round behind the first: each needs one at least that came in the round ahead of it, so only the ways with such a one are gone.
func (b *Base) nextRound(rules []rule, fresh []int) []int {
	found := slices.Repeat([]int{diagram.False}, len(b.rels))
	for _, r := range rules {
		came := make([]int, len(r.Lits))
		for i, l := range r.Lits {
			// A lit with ! is of a layer where nothing comes any more.
			came[i] = b.where(fresh[l.Rel], l.Atom)
			r.holds[i] = b.diagrams.Or(r.holds[i], came[i])
		}
		for _, f := range came {
			b.find(found, r, f)
		}
	}
	return b.withoutOld(found)
}

// find adds the heads of those ways under f by which a rule holds.
func (b *Base) find(found []int, r rule, f int) {
	for _, h := range r.holds {
		f = b.diagrams.And(f, h)
	}
	rel := r.Head.Rel
	found[rel] = b.diagrams.Or(found[rel], b.heads(f, r.Head))
}

func (b *Base) withoutOld(found []int) []int {
	for i, f := range found {
		found[i] = b.diagrams.Diff(f, b.rels[i].tuples)
	}
	return found
}

// addFresh tells whether there was anything to add.
func (b *Base) addFresh(fresh []int, rank int) bool {
	grown := false
	for i, f := range fresh {
		b.add(&b.rels[i], f, rank)
		grown = grown || f != diagram.False
	}
	return grown
}

// sweep leaves what the relations, the rules and what comes next need.
func (b *Base) sweep(rules []rule, fresh []int) {
	roots := slices.Clone(fresh)
	for _, r := range b.rels {
		roots = append(roots, r.facts, r.tuples)
	}
	for _, r := range rules {
		roots = append(roots, r.holds...)
	}
	b.diagrams.Sweep(roots...)
}
