package diagram

import (
	"math/rand"
	"slices"
	"testing"
)

// table tells a function as a list of its values.
func table(s *Store, f int) []bool {
	list := make([]bool, 1<<s.Vars())
	for a := range list {
		list[a] = s.Eval(f, a)
	}
	return list
}

// some makes a function out of all variables by chance.
func some(s *Store, dice *rand.Rand) int {
	f := False
	for a := range 1 << s.Vars() {
		if dice.Intn(2) == 0 {
			continue
		}
		term := True
		for i := range s.Vars() {
			x := s.Var(i)
			if a>>i&1 == 0 {
				x = s.Not(x)
			}
			term = s.And(term, x)
		}
		f = s.Or(f, term)
	}
	return f
}

// check tells what is wrong with a store: a node out of order, one that is not reduced, or one of which the two maps say unlike things.
func check(t *testing.T, s *Store) {
	t.Helper()
	if len(s.nodes) != len(s.numbers) {
		t.Fatalf("%d nodes, %d numbers", len(s.nodes), len(s.numbers))
	}
	for f, n := range s.nodes {
		if s.numbers[n] != f {
			t.Fatalf("node %d is found as %d", f, s.numbers[n])
		}
		if n.Low == n.High {
			t.Fatalf("node %d is not reduced", f)
		}
		if min(s.level(n.Low), s.level(n.High)) <= s.level(f) {
			t.Fatalf("node %d is out of order", f)
		}
	}
	for place, v := range s.order {
		if s.Place(v) != place {
			t.Fatalf("variable %d is at %d, not at %d", v, place, s.Place(v))
		}
	}
}

func TestNodesEachOnce(t *testing.T) {
	s := New(4)
	a := s.And(s.Var(0), s.Var(1))
	b := s.And(s.Var(2), s.Var(3))
	f := s.Or(a, b)
	seen := map[int]int{}
	for g, n := range s.Nodes(f, b, True, f, False) {
		seen[g]++
		if n != s.nodes[g] {
			t.Errorf("P4: node %d is %v", g, n)
		}
	}
	if len(seen) != 4 {
		t.Errorf("P4: %d nodes, want 4", len(seen))
	}
	for g, times := range seen {
		if times != 1 {
			t.Errorf("P4: node %d comes %d times", g, times)
		}
	}
	for range s.Nodes(False, True) {
		t.Error("P4: a constant has a node")
	}
}

func TestNodesStops(t *testing.T) {
	s := New(4)
	f := s.Xor(s.Var(0), s.Xor(s.Var(1), s.Var(2)))
	for stop := 1; stop <= s.Size(f); stop++ {
		came := 0
		for range s.Nodes(f) {
			came++
			if came == stop {
				break
			}
		}
		if came != stop {
			t.Errorf("P4: %d nodes came, want %d", came, stop)
		}
	}
}

func TestNodesLeavesRoots(t *testing.T) {
	s := New(3)
	f := s.Xor(s.Var(0), s.Var(1))
	roots := []int{f, s.Var(2), 9, 9}
	want := slices.Clone(roots)
	for range s.Nodes(roots[:2]...) {
	}
	if !slices.Equal(roots, want) {
		t.Errorf("P2: going through nodes makes %v of the roots %v", roots, want)
	}
}

func TestSweep(t *testing.T) {
	s := New(5)
	dice := rand.New(rand.NewSource(1))
	f, g := some(s, dice), some(s, dice)
	want := table(s, f)
	size := s.Size(f)
	if s.Len() <= size {
		t.Fatal("nothing to sweep")
	}
	s.Sweep(f)
	check(t, s)
	if s.Len() != size || len(s.known) != 0 {
		t.Errorf("behind Sweep %d nodes and %d answers are kept, want %d and 0", s.Len(), len(s.known), size)
	}
	if !slices.Equal(table(s, f), want) {
		t.Error("Sweep changes a function that is needed")
	}
	if h := s.Not(s.Not(f)); h != f {
		t.Errorf("behind Sweep %d is found as %d", f, h)
	}
	if h := some(s, rand.New(rand.NewSource(1))); h != f {
		t.Errorf("behind Sweep %d is made anew as %d", f, h)
	}
	dice = rand.New(rand.NewSource(1))
	some(s, dice)
	if h := some(s, dice); h <= g {
		t.Errorf("a number that was given ahead: %d behind %d", h, g)
	}
	s.Sweep()
	if s.Len() != 0 {
		t.Errorf("%d nodes that nothing needs", s.Len())
	}
}

func TestSwapKeepsNumbers(t *testing.T) {
	for vars := 2; vars <= 6; vars++ {
		s := New(vars)
		dice := rand.New(rand.NewSource(int64(vars)))
		roots := []int{some(s, dice), some(s, dice), some(s, dice), s.Var(0), s.Var(vars - 1)}
		var tables [][]bool
		for _, f := range roots {
			tables = append(tables, table(s, f))
		}
		for n := range 100 {
			s.Swap(dice.Intn(vars - 1))
			check(t, s)
			if n%7 == 0 {
				s.Sweep(roots...)
				check(t, s)
			}
			for i, f := range roots {
				if !slices.Equal(table(s, f), tables[i]) {
					t.Fatalf("P4: %d variables, swap %d: function %d changes", vars, n, i)
				}
				if g := s.Not(s.Not(f)); g != f {
					t.Fatalf("P3: %d variables, swap %d: %d is found as %d", vars, n, f, g)
				}
			}
		}
	}
}

func TestSwapBack(t *testing.T) {
	s := New(6)
	f := some(s, rand.New(rand.NewSource(9)))
	s.Sweep(f)
	order, size := s.Order(), s.Len()
	for level := range 5 {
		s.Swap(level)
		s.Swap(level)
		s.Sweep(f)
		if s.Len() != size || !slices.Equal(s.Order(), order) {
			t.Errorf("P4: Swap(%d) and back: %d nodes by %v, want %d by %v", level, s.Len(), s.Order(), size, order)
		}
	}
}

func TestManyVariables(t *testing.T) {
	s := New(20)
	f := True
	for i := 0; i < 20; i += 2 {
		f = s.And(f, s.Xor(s.Var(i), s.Not(s.Var(i+1))))
	}
	if n := s.Count(f); n != 1<<10 {
		t.Errorf("P4: Count = %d, want %d", n, 1<<10)
	}
	if n := s.Size(f); n != 30 {
		t.Errorf("P4: Size = %d, want 30", n)
	}
	if g := s.Exists(f, 1<<20-1); g != True {
		t.Errorf("P3: Exists = %d, want 1", g)
	}
	if n := s.Support(s.Exists(f, 3)); n != 1<<20-4 {
		t.Errorf("P4: Support = %b", n)
	}
}

func TestTrues(t *testing.T) {
	dice := rand.New(rand.NewSource(4))
	for vars := 1; vars <= 6; vars++ {
		s, small := New(vars+2), New(vars)
		f := copied(small, some(small, dice), s)
		var want []int
		for a := range 1 << vars {
			// The first variable tells most: the bits the other way round are sorted as the assignments are to be.
			turned := 0
			for i := range vars {
				turned |= a >> i & 1 << (vars - 1 - i)
			}
			if s.Eval(f, turned) {
				want = append(want, turned)
			}
		}
		if got := slices.Collect(s.Trues(f, vars)); !slices.Equal(got, want) {
			t.Errorf("%d variables: %b, want %b", vars, got, want)
		}
	}
}

// copied makes a function anew in another store.
func copied(from *Store, f int, to *Store) int {
	if f <= True {
		return f
	}
	n := from.nodes[f]
	return to.Ite(to.Var(n.Variable), copied(from, n.High, to), copied(from, n.Low, to))
}

func TestTruesByOrder(t *testing.T) {
	s := New(3)
	if got := slices.Collect(s.Trues(True, 0)); !slices.Equal(got, []int{0}) {
		t.Errorf("the assignments of no variables: %b", got)
	}
	if got := slices.Collect(s.Trues(False, 3)); len(got) != 0 {
		t.Errorf("False is true under %b", got)
	}
	s.Swap(0)
	// The order is 1, 0, 2; what is asked for is the variables 1 and 0.
	if got := slices.Collect(s.Trues(True, 2)); !slices.Equal(got, []int{0, 1, 2, 3}) {
		t.Errorf("all assignments are %b", got)
	}
	if got := slices.Collect(s.Trues(s.Or(s.Var(0), s.Var(1)), 2)); !slices.Equal(got, []int{1, 2, 3}) {
		t.Errorf("assignments by the order 1, 0: %b", got)
	}
}

func TestTruesStops(t *testing.T) {
	s := New(3)
	f := s.Or(s.Var(0), s.Var(2))
	all := slices.Collect(s.Trues(f, 3))
	for stop := 1; stop <= len(all); stop++ {
		var got []int
		for a := range s.Trues(f, 3) {
			got = append(got, a)
			if len(got) == stop {
				break
			}
		}
		if !slices.Equal(got, all[:stop]) {
			t.Errorf("the first %d are %b, want %b", stop, got, all[:stop])
		}
	}
}

func TestSubstitute(t *testing.T) {
	dice := rand.New(rand.NewSource(5))
	for range 40 {
		s := New(4)
		f := some(s, dice)
		by := []int{some(s, dice), dice.Intn(2), s.Var(dice.Intn(4)), s.Var(dice.Intn(4))}
		dice.Shuffle(4, func(i, j int) { by[i], by[j] = by[j], by[i] })
		kept := slices.Clone(by)
		g := s.Substitute(f, by)
		check(t, s)
		for a := range 16 {
			inner := 0
			for i, h := range by {
				if s.Eval(h, a) {
					inner |= 1 << i
				}
			}
			if s.Eval(g, a) != s.Eval(f, inner) {
				t.Fatalf("P6: by %v, under %b it is not as under %b", by, a, inner)
			}
		}
		if !slices.Equal(by, kept) {
			t.Errorf("P2: the list %v was changed to %v", kept, by)
		}
	}
}
