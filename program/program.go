// Package program reads programs of relations, facts and rules.
//
// A text that is wrong is given up by a panic with its api.Fault, as deep within as it is found: whoever calls Read catches it.
package program

import "thresh/api"

// Program is what a text without a fault says.
type Program struct {
	Rels    []Rel
	Clauses []Clause
	tokens  []token
}

// Rel is a relation.
type Rel struct {
	Name  string
	Sizes []int // by column: that of its dom
	Layer int
}

// Clause is a fact, if it has no lits, else a rule.
type Clause struct {
	Head Atom
	Lits []Lit
}

// Lit is an atom that a rule asks for, or whose contrary it asks for.
type Lit struct {
	Atom
	Not bool
}

// Atom has a term for each column of a rel.
type Atom struct {
	Rel   int // its place in the program's Rels
	Terms []Term
}

// Term is a VAR or an INT.
type Term struct {
	IsVar  bool
	Number int // of a VAR: its place among those of its clause, in the order in which they come
}

// Vars tells the set of an atom's VARs (number i as bit i).
func (a Atom) Vars() int {
	set := 0
	for _, t := range a.Terms {
		if t.IsVar {
			set |= 1 << t.Number
		}
	}
	return set
}

// Read makes a program of a text, or panics with the text's fault. Each step looks at the whole text, so that its faults come ahead of those of the steps behind it.
func Read(text string) *Program {
	if len(text) > api.MaxText {
		giveUp(api.ErrLong, 0)
	}
	tokens := scan(text)
	m := understand(parse(tokens))
	m.forbidUnsafe()
	m.forbidCircles()
	return &Program{m.rels(), m.clauses, tokens}
}

func giveUp(code api.Errno, line int) {
	panic(api.Fault{Code: code, Line: line})
}
