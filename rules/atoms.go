package rules

import (
	"slices"

	"thresh/api"
	"thresh/diagram"
	"thresh/program"
)

// A function hangs on columns or on a clause's VARs, never on both: so the diagrams' variables are the bits of the one in some functions, of the other in others.

// variable tells which of the diagrams' variables a bit of a column or of a VAR is. The greatest bit is the first one.
func variable(place, i int) int { return bits*place + i }

// tupleOf tells the numbers whose bits an assignment gives.
func tupleOf(assignment, columns int) []int {
	list := make([]int, columns)
	for column := range list {
		for i := range bits {
			list[column] = list[column]<<1 | assignment>>variable(column, i)&1
		}
	}
	return list
}

// assignmentOf is tupleOf the other way round.
func assignmentOf(tuple []int) int {
	assignment := 0
	for column, n := range tuple {
		for i := range bits {
			assignment |= n >> (bits - 1 - i) & 1 << variable(column, i)
		}
	}
	return assignment
}

// where answers by VARs where a function of columns is true of an atom's terms.
func (b *Base) where(f int, a program.Atom) int {
	var by []int
	for _, t := range a.Terms {
		for i := range bits {
			by = append(by, b.bit(t, i))
		}
	}
	return b.diagrams.Substitute(f, by)
}

// bit answers the function of a term's bit.
func (b *Base) bit(t program.Term, i int) int {
	switch {
	case t.IsVar:
		return b.diagrams.Var(variable(t.Number, i))
	case t.Number>>(bits-1-i)&1 == 1:
		return diagram.True
	}
	return diagram.False
}

// heads answers by columns what a head becomes where a function of VARs is true.
func (b *Base) heads(f int, head program.Atom) int {
	first := firstColumns(head)
	by := make([]int, b.diagrams.Vars())
	gone := 0
	for v, column := range first {
		for i := range bits {
			if column < 0 {
				gone |= 1 << variable(v, i)
				continue
			}
			by[variable(v, i)] = b.diagrams.Var(variable(column, i))
		}
	}
	f = b.diagrams.Substitute(b.diagrams.Exists(f, gone), by)
	for column, t := range head.Terms {
		if t.IsVar {
			// From now on the VAR is its first column, which its other columns must equal.
			t.Number = first[t.Number]
		}
		f = b.diagrams.And(f, b.equal(column, t))
	}
	return f
}

// firstColumns tells for each VAR the first column of a head where it stands, or -1.
func firstColumns(head program.Atom) [api.MaxTerms]int {
	var list [api.MaxTerms]int
	for v := range list {
		list[v] = slices.Index(head.Terms, program.Term{IsVar: true, Number: v})
	}
	return list
}

// equal answers where a column has a term's number, or that of the column which the term is.
func (b *Base) equal(column int, t program.Term) int {
	f := diagram.True
	for i := range bits {
		unlike := b.diagrams.Xor(b.diagrams.Var(variable(column, i)), b.bit(t, i))
		f = b.diagrams.Diff(f, unlike)
	}
	return f
}
