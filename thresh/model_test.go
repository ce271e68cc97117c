package thresh_test

import (
	"slices"
	"strings"

	"thresh/api"
)

// model is a kernel by the document's words alone: each function is its truth table, one byte an assignment, and nodes are found by fixing variables in all ways.
type model struct {
	vars  int
	order []int
	live  map[int]string
	next  int
}

func newModel(vars int) *model {
	m := &model{vars: vars, next: 2, live: map[int]string{
		0: strings.Repeat("0", 1<<vars),
		1: strings.Repeat("1", 1<<vars),
	}}
	for i := range vars {
		m.order = append(m.order, i)
	}
	return m
}

// draw writes down the table of a function.
func (m *model) draw(is func(a int) bool) string {
	table := make([]byte, 1<<m.vars)
	for a := range table {
		table[a] = '0'
		if is(a) {
			table[a] = '1'
		}
	}
	return string(table)
}

func (m *model) answer(table string) (int, api.Errno) {
	for h, t := range m.live {
		if t == table {
			return h, api.OK
		}
	}
	if len(m.live)-2 >= 100 {
		return 0, api.ErrFull
	}
	m.live[m.next] = table
	m.next++
	return m.next - 1, api.OK
}

func (m *model) has(handles ...int) bool {
	for _, h := range handles {
		if _, ok := m.live[h]; !ok {
			return false
		}
	}
	return true
}

func (m *model) Var(i int) (int, api.Errno) {
	if i < 0 || i >= m.vars {
		return 0, api.ErrArg
	}
	return m.answer(m.draw(func(a int) bool { return a>>i&1 == 1 }))
}

func (m *model) Not(f int) (int, api.Errno) {
	if !m.has(f) {
		return 0, api.ErrHandle
	}
	return m.answer(m.draw(func(a int) bool { return m.live[f][a] == '0' }))
}

func (m *model) Apply(op, f, g int) (int, api.Errno) {
	if op < 0 || op > 3 {
		return 0, api.ErrArg
	}
	if !m.has(f, g) {
		return 0, api.ErrHandle
	}
	return m.answer(m.draw(func(a int) bool {
		x, y := m.live[f][a] == '1', m.live[g][a] == '1'
		return []bool{x && y, x || y, x != y, x && !y}[op]
	}))
}

func (m *model) Ite(f, g, h int) (int, api.Errno) {
	if !m.has(f, g, h) {
		return 0, api.ErrHandle
	}
	return m.answer(m.draw(func(a int) bool {
		if m.live[f][a] == '1' {
			return m.live[g][a] == '1'
		}
		return m.live[h][a] == '1'
	}))
}

func (m *model) Exists(f, vars int) (int, api.Errno) {
	if vars < 0 || vars >= 1<<m.vars {
		return 0, api.ErrArg
	}
	if !m.has(f) {
		return 0, api.ErrHandle
	}
	return m.answer(m.draw(func(a int) bool {
		for b := range 1 << m.vars {
			if (a^b)&^vars == 0 && m.live[f][b] == '1' {
				return true
			}
		}
		return false
	}))
}

func (m *model) Replace(f int, to []int) (int, api.Errno) {
	sorted := slices.Sorted(slices.Values(to))
	if len(to) != m.vars {
		return 0, api.ErrArg
	}
	for i, v := range sorted {
		if i != v {
			return 0, api.ErrArg
		}
	}
	if !m.has(f) {
		return 0, api.ErrHandle
	}
	return m.answer(m.draw(func(a int) bool {
		b := 0
		for i, v := range to {
			b |= a >> v & 1 << i
		}
		return m.live[f][b] == '1'
	}))
}

func (m *model) Eval(f, a int) (bool, api.Errno) {
	if a < 0 || a >= 1<<m.vars {
		return false, api.ErrArg
	}
	if !m.has(f) {
		return false, api.ErrHandle
	}
	return m.live[f][a] == '1', api.OK
}

func (m *model) Count(f int) (int, api.Errno) {
	if !m.has(f) {
		return 0, api.ErrHandle
	}
	return strings.Count(m.live[f], "1"), api.OK
}

func (m *model) Support(f int) (int, api.Errno) {
	if !m.has(f) {
		return 0, api.ErrHandle
	}
	set := 0
	for i := range m.vars {
		for a := range 1 << m.vars {
			if m.live[f][a] != m.live[f][a^1<<i] {
				set |= 1 << i
			}
		}
	}
	return set, api.OK
}

// nodes puts a table's nodes by an order into a set.
func (m *model) nodes(table string, order []int, into map[string]bool) {
	for k := range m.vars + 1 {
		fixed := 0
		for _, v := range order[:k] {
			fixed |= 1 << v
		}
		for values := range 1 << m.vars {
			if values&^fixed != 0 {
				continue
			}
			part := m.draw(func(a int) bool { return table[a&^fixed|values] == '1' })
			if strings.Contains(part, "0") && strings.Contains(part, "1") {
				into[part] = true
			}
		}
	}
}

func (m *model) Size(f int) (int, api.Errno) {
	if !m.has(f) {
		return 0, api.ErrHandle
	}
	set := map[string]bool{}
	m.nodes(m.live[f], m.order, set)
	return len(set), api.OK
}

func (m *model) totalBy(order []int) int {
	set := map[string]bool{}
	for _, table := range m.live {
		m.nodes(table, order, set)
	}
	return len(set)
}

func (m *model) Total() int { return m.totalBy(m.order) }

func (m *model) Order() []int { return m.order }

func (m *model) Swap(level int) api.Errno {
	if level < 0 || level > m.vars-2 {
		return api.ErrArg
	}
	m.order[level], m.order[level+1] = m.order[level+1], m.order[level]
	return api.OK
}

func (m *model) Sift(i int) api.Errno {
	if i < 0 || i >= m.vars {
		return api.ErrArg
	}
	rest := slices.DeleteFunc(slices.Clone(m.order), func(v int) bool { return v == i })
	var best []int
	least := 0
	for place := range m.vars {
		order := slices.Insert(slices.Clone(rest), place, i)
		if total := m.totalBy(order); best == nil || total < least {
			best, least = order, total
		}
	}
	m.order = best
	return api.OK
}

func (m *model) Drop(f int) api.Errno {
	if !m.has(f) || f < 2 {
		return api.ErrHandle
	}
	delete(m.live, f)
	return api.OK
}
