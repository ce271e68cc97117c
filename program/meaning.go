package program

import (
	"strings"

	"thresh/api"
	"thresh/ordered"
)

// meaning is what the items so far say.
type meaning struct {
	doms    ordered.Set[string]
	sizes   []int // by dom
	names   ordered.Set[string]
	columns [][]int // by rel: the doms of its columns
	clauses []Clause
	lines   []int // by clause: that of its head's NAME
}

// understand adds item by item, so that the first fault from the front is the one that it gives up at.
func understand(items []item) *meaning {
	m := &meaning{}
	for _, i := range items {
		i.addTo(m)
	}
	return m
}

// refuse gives up at a token, if it is as it must not be.
func (t token) refuse(wrong bool, code api.Errno) {
	if wrong {
		giveUp(code, t.line)
	}
}

func (m *meaning) isTaken(name string) bool {
	_, dom := m.doms.Place(name)
	_, rel := m.names.Place(name)
	return dom || rel
}

func (d domItem) addTo(m *meaning) {
	d.name.refuse(m.doms.Len() == api.MaxDoms, api.ErrMany)
	d.name.refuse(m.isTaken(d.name.text), api.ErrTwice)
	size := d.size.value()
	d.size.refuse(size < 1 || size > api.MaxSize, api.ErrRange)
	m.doms.Add(d.name.text)
	m.sizes = append(m.sizes, size)
}

func (r relItem) addTo(m *meaning) {
	r.name.refuse(m.names.Len() == api.MaxRels, api.ErrMany)
	r.name.refuse(m.isTaken(r.name.text), api.ErrTwice)
	var columns []int
	for i, c := range r.columns {
		c.refuse(i == api.MaxColumns, api.ErrMany)
		dom, there := m.doms.Place(c.text)
		c.refuse(!there, api.ErrName)
		columns = append(columns, dom)
	}
	m.names.Add(r.name.text)
	m.columns = append(m.columns, columns)
}

func (c clauseItem) addTo(m *meaning) {
	c.head.name.refuse(len(m.clauses) == api.MaxClauses, api.ErrMany)
	s := scope{meaning: m}
	clause := Clause{Head: s.atom(c.head)}
	for i, l := range c.lits {
		l.name.refuse(i == api.MaxLits, api.ErrMany)
		clause.Lits = append(clause.Lits, Lit{s.atom(l.atomItem), l.not})
	}
	m.clauses = append(m.clauses, clause)
	m.lines = append(m.lines, c.head.name.line)
}

// scope is the meaning of a clause's names: its VARs are its own.
type scope struct {
	*meaning
	vars ordered.Set[string]
	kind []int // by VAR: the dom of the column where it stands first
}

func (s *scope) atom(a atomItem) Atom {
	rel, there := s.names.Place(a.name.text)
	a.name.refuse(!there, api.ErrName)
	columns := s.columns[rel]
	a.name.refuse(len(a.terms) != len(columns), api.ErrArity)
	atom := Atom{Rel: rel}
	for i, t := range a.terms {
		atom.Terms = append(atom.Terms, s.term(t, columns[i]))
	}
	return atom
}

func (s *scope) term(t token, dom int) Term {
	if t.kind == kindVar {
		return Term{true, s.variable(t, dom)}
	}
	t.refuse(t.value() >= s.sizes[dom], api.ErrRange)
	return Term{false, t.value()}
}

// variable tells the place of a VAR among those of the clause.
func (s *scope) variable(t token, dom int) int {
	place, there := s.vars.Place(t.text)
	if there {
		t.refuse(s.kind[place] != dom, api.ErrDom)
		return place
	}
	t.refuse(s.vars.Len() == api.MaxTerms, api.ErrMany)
	s.kind = append(s.kind, dom)
	return s.vars.Add(t.text)
}

// rels tells the relations, when the clauses are known to be without circles.
func (m *meaning) rels() []Rel {
	layers := m.layers()
	var list []Rel
	for i, name := range m.names.All() {
		// A copy: the name is to outlive the text, which is not to be kept for its sake.
		list = append(list, Rel{strings.Clone(name), m.sizesOf(i), layers[i]})
	}
	return list
}

// sizesOf tells the sizes of a rel's columns.
func (m *meaning) sizesOf(rel int) []int {
	var list []int
	for _, dom := range m.columns[rel] {
		list = append(list, m.sizes[dom])
	}
	return list
}
