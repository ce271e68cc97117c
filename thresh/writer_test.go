package thresh_test

import (
	"fmt"
	"math/rand"
	"slices"
	"strings"
)

// writer writes programs by chance, most of them without a fault.
type writer struct {
	*rand.Rand
	doms    []string
	sizes   []int // by dom
	rels    []string
	columns [][]int // by rel: doms
	items   []string
}

// scribe is a clause's VARs.
type scribe struct {
	*writer
	vars []string
	doms []int // by VAR
}

var varNames = []string{"X", "Y", "Z", "X1", "A", "B0", "Q9"}

func write(dice *rand.Rand) []string {
	w := &writer{Rand: dice}
	names := []string{"a", "b", "c", "d0", "long12", "domain", "rel2", "zz", "e", "f"}
	w.Shuffle(len(names), func(i, j int) { names[i], names[j] = names[j], names[i] })
	doms, rels := 1+w.Intn(4), 1+w.Intn(6)
	for i := range doms + rels {
		if i < doms {
			w.dom(names[i])
		} else {
			w.rel(names[i])
			for range w.Intn(3) {
				w.clause()
			}
		}
	}
	for range w.Intn(12) {
		w.clause()
	}
	return w.items
}

func (w *writer) dom(name string) {
	w.doms = append(w.doms, name)
	w.sizes = append(w.sizes, []int{1, 2, 2, 3, 3, 4, 5, 8}[w.Intn(8)])
	w.items = append(w.items, fmt.Sprintf("dom %s %d;", name, w.sizes[len(w.sizes)-1]))
}

func (w *writer) rel(name string) {
	var columns []int
	var names []string
	for range 1 + w.Intn(3) {
		d := w.Intn(len(w.doms))
		columns = append(columns, d)
		names = append(names, w.doms[d])
	}
	w.rels = append(w.rels, name)
	w.columns = append(w.columns, columns)
	w.items = append(w.items, "rel "+name+"("+strings.Join(names, ",")+");")
}

func (w *writer) clause() {
	s := &scribe{writer: w}
	head := w.Intn(len(w.rels))
	if w.Intn(5) < 2 {
		w.items = append(w.items, s.atom(head, false)+".")
		return
	}
	var lits []string
	for range 1 + w.Intn(4) {
		lits = append(lits, s.lit(head, len(lits) > 0))
	}
	// What asks for a contrary may stand ahead of what binds its VARs.
	first := s.atom(head, false)
	w.Shuffle(len(lits), func(i, j int) { lits[i], lits[j] = lits[j], lits[i] })
	w.items = append(w.items, first+":-"+strings.Join(lits, ",")+".")
}

func (s *scribe) lit(head int, bound bool) string {
	if head > 0 && bound && s.Intn(3) == 0 {
		return "!" + s.atom(s.Intn(head), false)
	}
	if s.Intn(8) == 0 {
		return s.atom(s.Intn(len(s.rels)), true)
	}
	return s.atom(s.Intn(head+1), true)
}

// atom may bind VARs that are not there yet.
func (s *scribe) atom(rel int, binds bool) string {
	var terms []string
	for _, dom := range s.columns[rel] {
		terms = append(terms, s.term(dom, binds))
	}
	return s.rels[rel] + "(" + strings.Join(terms, ",") + ")"
}

func (s *scribe) term(dom int, binds bool) string {
	var fitting []string
	for i, v := range s.vars {
		if s.doms[i] == dom {
			fitting = append(fitting, v)
		}
	}
	if binds && len(s.vars) < 4 && s.Intn(2) == 0 {
		v := varNames[s.Intn(len(varNames))]
		if !slices.Contains(s.vars, v) {
			s.vars, s.doms = append(s.vars, v), append(s.doms, dom)
			return v
		}
	}
	if len(fitting) > 0 && s.Intn(6) > 0 {
		return fitting[s.Intn(len(fitting))]
	}
	return []string{"", "0"}[s.Intn(2)] + fmt.Sprint(s.Intn(s.sizes[dom]))
}

// spaced writes a text of tokens, with what may stand between them.
func spaced(dice *rand.Rand, tokens []string) string {
	var b strings.Builder
	for i, t := range tokens {
		if i > 0 && strings.ContainsAny(t[:1], letters) && strings.ContainsAny(tokens[i-1], letters) {
			b.WriteString([]string{" ", "\t", "\n", " %x\n"}[dice.Intn(4)])
		} else if dice.Intn(10) == 0 {
			b.WriteString([]string{" ", "\t", "\n", "%\n", "% dom $ \xff \n", "\n\n"}[dice.Intn(6)])
		}
		b.WriteString(t)
	}
	return b.String() + []string{"", "\n", " % end", " "}[dice.Intn(4)]
}

const letters = "abcdefghijklmnopqrstuvwxyzABCDEFGHIJKLMNOPQRSTUVWXYZ0123456789"

// pieces tells the tokens of a program that has no fault.
func pieces(items []string) []string {
	var list []string
	found, _ := words(strings.Join(items, ""))
	for _, w := range found {
		list = append(list, w.text)
	}
	return list
}

// swell makes too much of something.
func swell(dice *rand.Rand, items []string) []string {
	items = slices.Clone(items)
	i := dice.Intn(len(items))
	head, body, isRule := strings.Cut(strings.TrimSuffix(items[i], "."), ":-")
	switch {
	case isRule:
		items[i] = head + ":-" + body + "," + body + "."
	case strings.HasSuffix(head, ";"):
		items = append(items, items...)
	default:
		items = append(items, slices.Repeat([]string{head + "."}, 53)...)
	}
	return items
}

// spoil changes some tokens.
func spoil(dice *rand.Rand, tokens []string) []string {
	tokens = slices.Clone(tokens)
	others := []string{"dom", "rel", "a", "b", "zz", "toolong", "X", "Y", "W", "V", "0", "3", "8", "9", "99", "100", "(", ")", ",", ";", ".", ":-", ":", "!", "$", "\r", "\x00", "\xff"}
	for range 1 + dice.Intn(2) {
		i := dice.Intn(len(tokens))
		switch dice.Intn(12) {
		case 0:
			tokens = slices.Delete(tokens, i, i+1)
		case 1:
			tokens = slices.Insert(tokens, i, tokens[i])
		case 2:
			tokens = slices.Insert(tokens, i, others[dice.Intn(len(others))])
		case 3:
			tokens = tokens[:i+1]
		case 4:
			tokens[i] = others[dice.Intn(len(others))]
		case 5, 6:
			if kind := tokens[i][0]; kind >= '0' && kind <= 'Z' {
				tokens = slices.Insert(tokens, i, tokens[i], ",")
			}
		default:
			tokens[i] = alike(dice, tokens, tokens[i])
		}
		if len(tokens) == 0 {
			break
		}
	}
	return tokens
}

// alike tells another token of the text that is of the same kind, so that the grammar holds.
func alike(dice *rand.Rand, tokens []string, old string) string {
	kind := func(s string) byte {
		list, _ := words(s)
		if len(list) != 1 {
			return 0
		}
		return list[0].kind
	}
	for range 20 {
		t := tokens[dice.Intn(len(tokens))]
		if kind(t) == kind(old) && t != old {
			return t
		}
	}
	switch kind(old) {
	case 'i':
		return fmt.Sprint(dice.Intn(10))
	case 'n':
		return "none"
	case 'v':
		return "V"
	}
	return old
}
