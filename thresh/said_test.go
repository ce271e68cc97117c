package thresh_test

import (
	"fmt"
	"maps"
	"regexp"
	"slices"
	"sort"
	"strconv"
	"strings"

	"thresh/api"
)

// said is a program by the document's words alone: its tokens are found by a regular expression, its grammar is one too, and of all faults that there are the first is taken.
type said struct {
	items   []string // as they are to be printed
	rels    []string
	columns map[string][]string // by rel: the doms of its columns
	sizes   map[string]int      // by dom
	clauses []saidClause
}

type saidClause struct {
	line int
	head saidAtom
	lits []saidAtom
}

type saidAtom struct {
	not   bool
	rel   string
	terms []string
}

// word is a token; its kind is one letter.
type word struct {
	kind byte
	text string
	line int
}

// flaw is a fault with the token it is of, and its place in the document's list.
type flaw struct {
	at, place int
	api.Fault
}

var (
	remark    = regexp.MustCompile(`%[^\n]*`)
	wordForm  = regexp.MustCompile(`^(?:[a-z][a-z0-9]*|[A-Z][0-9]?|[0-9]+|:-|[(),;.!])`)
	atomForm  = `n\([vi](?:,[vi])*\)`
	grammar   = regexp.MustCompile(`^(?:Dni;|Rn\(n(?:,n)*\);|` + atomForm + `(?::!?` + atomForm + `(?:,!?` + atomForm + `)*)?\.)*$`)
	endings   = []string{"", "ni;", "i;", ";", "n(n);", "(n);", "n);", ");", "n(i).", "(i).", "i).", ").", "."}
	isNumber  = regexp.MustCompile(`^[0-9]+$`)
	isCapital = regexp.MustCompile(`^[A-Z]`)
)

// words tells a text's tokens, and a fault if there is a byte or a length that may not be.
func words(text string) ([]word, api.Fault) {
	var list []word
	for i, line := range strings.Split(remark.ReplaceAllString(text, ""), "\n") {
		for {
			line = strings.TrimLeft(line, " \t")
			if line == "" {
				break
			}
			w := word{text: wordForm.FindString(line), line: i + 1}
			switch {
			case w.text == "dom":
				w.kind = 'D'
			case w.text == "rel":
				w.kind = 'R'
			case w.text == "", isNumber.MatchString(w.text) && len(w.text) > 2, len(w.text) > 6:
				return nil, api.Fault{Code: api.ErrSyntax, Line: i + 1}
			case isNumber.MatchString(w.text):
				w.kind = 'i'
			case isCapital.MatchString(w.text):
				w.kind = 'v'
			case w.text[0] >= 'a' && w.text[0] <= 'z':
				w.kind = 'n'
			default:
				w.kind = w.text[0]
			}
			list = append(list, w)
			line = line[len(w.text):]
		}
	}
	return list, api.Fault{}
}

// misplaced tells which token is the first that cannot stand where it stands: that which makes it impossible to end well. If just the end is wrong, it is the one behind the last; else -1.
func misplaced(list []word) int {
	kinds := ""
	for _, w := range list {
		kinds += string(w.kind)
	}
	if grammar.MatchString(kinds) {
		return -1
	}
	return sort.Search(len(kinds), func(i int) bool {
		return !slices.ContainsFunc(endings, func(end string) bool { return grammar.MatchString(kinds[:i+1] + end) })
	})
}

// listen tells what a text says, or its fault.
func listen(text string) (*said, api.Fault) {
	if len(text) > 1200 {
		return nil, api.Fault{Code: api.ErrLong}
	}
	list, fault := words(text)
	if fault.Code != api.OK {
		return nil, fault
	}
	if i := misplaced(list); i >= 0 {
		if i < len(list) {
			return nil, api.Fault{Code: api.ErrSyntax, Line: list[i].line}
		}
		return nil, api.Fault{Code: api.ErrSyntax, Line: strings.Count(text, "\n") + 1}
	}
	s := &said{columns: map[string][]string{}, sizes: map[string]int{}}
	if flaws := s.hear(list); len(flaws) > 0 {
		return nil, slices.MinFunc(flaws, func(a, b flaw) int {
			if a.at != b.at {
				return a.at - b.at
			}
			return a.place - b.place
		}).Fault
	}
	for _, code := range []api.Errno{api.ErrUnsafe, api.ErrStrata} {
		for _, c := range s.clauses {
			if code == api.ErrUnsafe && s.isUnsafe(c) || code == api.ErrStrata && s.isCircle(c) {
				return nil, api.Fault{Code: code, Line: c.line}
			}
		}
	}
	return s, api.Fault{}
}

// hear takes item by item, and tells all flaws.
func (s *said) hear(list []word) []flaw {
	var flaws []flaw
	for at := 0; at < len(list); {
		from := at
		for list[at].kind != ';' && list[at].kind != '.' {
			at++
		}
		at++
		item := list[from:at]
		note := func(wrong bool, i, place int, code api.Errno) {
			if wrong {
				flaws = append(flaws, flaw{from + i, place, api.Fault{Code: code, Line: item[i].line}})
			}
		}
		switch item[0].kind {
		case 'D':
			s.hearDom(item, note)
		case 'R':
			s.hearRel(item, note)
		default:
			s.hearClause(item, note)
		}
	}
	return flaws
}

func (s *said) isNamed(name string) bool {
	return s.sizes[name] != 0 || slices.Contains(s.rels, name)
}

func (s *said) hearDom(item []word, note func(wrong bool, i, place int, code api.Errno)) {
	size, _ := strconv.Atoi(item[2].text)
	note(len(s.sizes) >= 4, 1, 0, api.ErrMany)
	note(s.isNamed(item[1].text), 1, 1, api.ErrTwice)
	note(size < 1 || size > 8, 2, 3, api.ErrRange)
	s.sizes[item[1].text] = size
	s.items = append(s.items, fmt.Sprintf("dom %s %d;\n", item[1].text, size))
}

func (s *said) hearRel(item []word, note func(wrong bool, i, place int, code api.Errno)) {
	name := item[1].text
	note(len(s.rels) >= 6, 1, 0, api.ErrMany)
	note(s.isNamed(name), 1, 1, api.ErrTwice)
	var columns []string
	for i := 3; i < len(item); i += 2 {
		if item[i].kind == 'n' {
			note(len(columns) >= 3, i, 0, api.ErrMany)
			note(s.sizes[item[i].text] == 0, i, 2, api.ErrName)
			columns = append(columns, item[i].text)
		}
	}
	s.rels = append(s.rels, name)
	s.columns[name] = columns
	s.items = append(s.items, "rel "+name+"("+strings.Join(columns, ", ")+");\n")
}

func (s *said) hearClause(item []word, note func(wrong bool, i, place int, code api.Errno)) {
	c := saidClause{line: item[0].line}
	doms := map[string]string{} // by VAR
	var atoms []saidAtom
	var columns []string
	not := false
	for i, w := range item {
		switch w.kind {
		case '!':
			not = true
		case 'n':
			note(len(s.clauses) >= 52 && i == 0 || len(atoms) > 4, i, 0, api.ErrMany)
			note(!slices.Contains(s.rels, w.text), i, 2, api.ErrName)
			columns = s.columns[w.text]
			close := i
			for item[close].kind != ')' {
				close++
			}
			note((close-i)/2 != len(columns), i, 4, api.ErrArity)
			atoms = append(atoms, saidAtom{not: not, rel: w.text})
			not = false
		case 'i', 'v':
			a := &atoms[len(atoms)-1]
			dom := "none"
			if len(a.terms) < len(columns) {
				dom = columns[len(a.terms)]
			}
			text := w.text
			if w.kind == 'i' {
				n, _ := strconv.Atoi(w.text)
				note(n >= s.sizes[dom], i, 5, api.ErrRange)
				text = strconv.Itoa(n)
			} else {
				old, known := doms[w.text]
				note(!known && len(doms) >= 4, i, 0, api.ErrMany)
				note(known && old != dom, i, 6, api.ErrDom)
				if !known {
					doms[w.text] = dom
				}
			}
			a.terms = append(a.terms, text)
		}
	}
	c.head, c.lits = atoms[0], atoms[1:]
	s.clauses = append(s.clauses, c)
	s.items = append(s.items, c.print())
}

func (c saidClause) print() string {
	var lits []string
	for _, l := range c.lits {
		lits = append(lits, l.print())
	}
	if len(lits) == 0 {
		return c.head.print() + ".\n"
	}
	return c.head.print() + " :- " + strings.Join(lits, ", ") + ".\n"
}

func (a saidAtom) print() string {
	mark := map[bool]string{true: "!", false: ""}[a.not]
	return mark + a.rel + "(" + strings.Join(a.terms, ", ") + ")"
}

// vars tells a clause's VARs with the sizes of their doms.
func (s *said) vars(c saidClause) map[string]int {
	sizes := map[string]int{}
	for _, a := range append([]saidAtom{c.head}, c.lits...) {
		for i, t := range a.terms {
			if isCapital.MatchString(t) {
				sizes[t] = s.sizes[s.columns[a.rel][i]]
			}
		}
	}
	return sizes
}

func (s *said) isUnsafe(c saidClause) bool {
	var bound []string
	for _, l := range c.lits {
		if !l.not {
			bound = append(bound, l.terms...)
		}
	}
	for _, a := range append([]saidAtom{c.head}, c.lits...) {
		for _, t := range a.terms {
			if isCapital.MatchString(t) && !slices.Contains(bound, t) {
				return true
			}
		}
	}
	return false
}

func (s *said) isCircle(c saidClause) bool {
	for _, l := range c.lits {
		if l.not && s.hangs(l.rel, c.head.rel, nil) {
			return true
		}
	}
	return false
}

// asks tells whether a rule of a rel has a lit of another one (with ! or without).
func (s *said) asks(rel, other string, not bool) bool {
	for _, c := range s.clauses {
		for _, l := range c.lits {
			if c.head.rel == rel && l.rel == other && l.not == not {
				return true
			}
		}
	}
	return false
}

// hangs goes from rel to rel, through none twice.
func (s *said) hangs(rel, on string, way []string) bool {
	if rel == on {
		return true
	}
	way = append(slices.Clone(way), rel)
	for _, other := range s.rels {
		if slices.Contains(way, other) || !s.asks(rel, other, true) && !s.asks(rel, other, false) {
			continue
		}
		if s.hangs(other, on, way) {
			return true
		}
	}
	return false
}

// layer tells the greatest number of contraries on a way from rel to rel, through none twice.
func (s *said) layer(rel string, way []string) int {
	most := 0
	way = append(slices.Clone(way), rel)
	for _, other := range s.rels {
		switch {
		case slices.Contains(way, other):
		case s.asks(rel, other, true):
			most = max(most, s.layer(other, way)+1)
		case s.asks(rel, other, false):
			most = max(most, s.layer(other, way))
		}
	}
	return most
}

// ranks tells by rel and tuple in which round of its layer each tuple came.
func (s *said) ranks() map[string]map[string]int {
	there := map[string]map[string]int{}
	for _, r := range s.rels {
		there[r] = map[string]int{}
	}
	for _, c := range s.clauses {
		if len(c.lits) == 0 {
			there[c.head.rel][fmt.Sprint(c.head.terms)] = 0
		}
	}
	for layer := range 6 {
		rels := slices.DeleteFunc(slices.Clone(s.rels), func(r string) bool { return s.layer(r, nil) != layer })
		for round := 1; s.round(there, rels, round); round++ {
		}
	}
	return there
}

// round tells whether a round of some rels' rules brought anything.
func (s *said) round(there map[string]map[string]int, rels []string, round int) bool {
	var come []saidAtom
	for _, c := range s.clauses {
		if slices.Contains(rels, c.head.rel) && len(c.lits) > 0 {
			s.ways(c, func(put map[string]string) {
				for _, l := range c.lits {
					if _, is := there[l.rel][l.with(put)]; is == l.not {
						return
					}
				}
				if _, old := there[c.head.rel][c.head.with(put)]; !old {
					come = append(come, saidAtom{rel: c.head.rel, terms: []string{c.head.with(put)}})
				}
			})
		}
	}
	for _, a := range come {
		there[a.rel][a.terms[0]] = round
	}
	return len(come) > 0
}

// with tells a tuple as a text.
func (a saidAtom) with(put map[string]string) string {
	terms := slices.Clone(a.terms)
	for i, t := range terms {
		if n, is := put[t]; is {
			terms[i] = n
		}
	}
	return fmt.Sprint(terms)
}

// ways goes through all ways to put numbers for a clause's VARs.
func (s *said) ways(c saidClause, each func(put map[string]string)) {
	sizes := s.vars(c)
	vars := slices.Sorted(maps.Keys(sizes))
	put := map[string]string{}
	var next func(i int)
	next = func(i int) {
		if i == len(vars) {
			each(put)
			return
		}
		for n := range sizes[vars[i]] {
			put[vars[i]] = strconv.Itoa(n)
			next(i + 1)
		}
	}
	next(0)
}

// misfit tells why a list is no tuple of a rel.
func (s *said) misfit(rel string, list []int) api.Errno {
	columns, there := s.columns[rel]
	if !there {
		return api.ErrName
	}
	if len(list) != len(columns) {
		return api.ErrArity
	}
	for i, n := range list {
		if n < 0 || n >= s.sizes[columns[i]] {
			return api.ErrRange
		}
	}
	return api.OK
}

// facts tells the facts as texts, each once.
func (s *said) facts() []string {
	var list []string
	for _, c := range s.clauses {
		if len(c.lits) == 0 {
			list = append(list, c.print())
		}
	}
	slices.Sort(list)
	return slices.Compact(list)
}

func factOf(rel string, tuple []int) saidClause {
	c := saidClause{head: saidAtom{rel: rel}}
	for _, n := range tuple {
		c.head.terms = append(c.head.terms, strconv.Itoa(n))
	}
	return c
}

func (s *said) add(rel string, tuple []int) api.Errno {
	if err := s.misfit(rel, tuple); err != api.OK {
		return err
	}
	c := factOf(rel, tuple)
	if slices.Contains(s.facts(), c.print()) {
		return api.ErrTwice
	}
	if len(s.facts()) >= 60 {
		return api.ErrMany
	}
	s.clauses = append(s.clauses, c)
	return api.OK
}

func (s *said) remove(rel string, tuple []int) api.Errno {
	if err := s.misfit(rel, tuple); err != api.OK {
		return err
	}
	gone := factOf(rel, tuple).print()
	if !slices.Contains(s.facts(), gone) {
		return api.ErrNone
	}
	s.clauses = slices.DeleteFunc(s.clauses, func(c saidClause) bool { return c.print() == gone })
	return api.OK
}

// declared tells the text's doms and rels.
func (s *said) declared() string {
	var b strings.Builder
	for _, item := range s.items {
		if strings.HasPrefix(item, "dom ") || strings.HasPrefix(item, "rel ") {
			b.WriteString(item)
		}
	}
	return b.String()
}

// text tells a program of the clauses as they are, each fact once.
func (s *said) text() string {
	rules := ""
	for _, c := range s.clauses {
		if len(c.lits) > 0 {
			rules += c.print()
		}
	}
	return s.declared() + rules + strings.Join(s.facts(), "")
}

// space tells all tuples that a rel may have.
func (s *said) space(rel string) [][]int {
	list := [][]int{nil}
	for _, dom := range s.columns[rel] {
		var longer [][]int
		for _, tuple := range list {
			for n := range s.sizes[dom] {
				longer = append(longer, append(slices.Clone(tuple), n))
			}
		}
		list = longer
	}
	return list
}
