package rules

import (
	"fmt"
	"slices"
	"testing"

	"thresh/diagram"
	"thresh/program"
)

const rounds = "dom d 5; rel e(d, d); rel p(d, d); rel q(d, d, d); e(0, 1). e(1, 2). e(2, 3). e(3, 4). p(X, Y) :- e(X, Y). p(X, Z) :- p(X, Y), e(Y, Z). q(X, Y, X) :- p(X, Y), !p(0, X)."

func TestTuplesStop(t *testing.T) {
	b := Work(program.Read(rounds))
	all := slices.Collect(b.Tuples(1))
	if fmt.Sprint(all) != "[[0 1] [0 2] [0 3] [0 4] [1 2] [1 3] [1 4] [2 3] [2 4] [3 4]]" {
		t.Fatalf("P6: %v", all)
	}
	for stop := 1; stop <= len(all); stop++ {
		var got [][]int
		for tuple := range b.Tuples(1) {
			got = append(got, tuple)
			if len(got) == stop {
				break
			}
		}
		if fmt.Sprint(got) != fmt.Sprint(all[:stop]) {
			t.Errorf("P6: the first %d are %v", stop, got)
		}
	}
}

// needsAll: there are the nodes and ranks of the relations alone.
func needsAll(t *testing.T, b *Base) {
	t.Helper()
	var roots []int
	for i, r := range b.rels {
		roots = append(roots, r.facts, r.tuples)
		if n := len(slices.Collect(b.Tuples(i))); n != len(r.ranks) {
			t.Errorf("%d ranks are kept of %d tuples", len(r.ranks), n)
		}
	}
	needed := map[int]diagram.Node{}
	for f, n := range b.diagrams.Nodes(roots...) {
		needed[f] = n
	}
	if b.diagrams.Len() != len(needed) {
		t.Errorf("%d nodes are kept, %d are needed", b.diagrams.Len(), len(needed))
	}
}

func TestNothingKept(t *testing.T) {
	b := Work(program.Read(rounds))
	if len(b.rules) != 3 {
		t.Errorf("%d rules are kept", len(b.rules))
	}
	nodes := b.diagrams.Len()
	needsAll(t, b)
	b.Remove(0, []int{2, 3})
	needsAll(t, b)
	b.Add(2, []int{4, 4, 4})
	needsAll(t, b)
	b.Add(0, []int{2, 3})
	b.Remove(2, []int{4, 4, 4})
	needsAll(t, b)
	if n := b.diagrams.Len(); n != nodes {
		t.Errorf("P8: facts that came and went leave %d nodes, %d were there", n, nodes)
	}
}

func TestFactsCounted(t *testing.T) {
	b := Work(program.Read(rounds + "e(3, 4). q(0, 0, 0)."))
	if n := b.Facts(); n != 5 {
		t.Errorf("P7: %d facts, want 5", n)
	}
	if !b.IsFact(0, []int{3, 4}) || !b.IsFact(2, []int{0, 0, 0}) || b.IsFact(1, []int{3, 4}) {
		t.Error("P7: the facts are others")
	}
	if n, there := b.Rank(1, []int{3, 4}); n != 1 || !there {
		t.Errorf("P7: rank %d, %v", n, there)
	}
	b.Remove(0, []int{3, 4})
	b.Add(1, []int{0, 0})
	b.Add(1, []int{0, 1})
	if n := b.Facts(); n != 6 {
		t.Errorf("P7: %d facts, want 6", n)
	}
}

func TestFits(t *testing.T) {
	b := Work(program.Read("dom c 1; dom d 8; dom f 3; rel a(c); rel b(c, d, f);"))
	if b.Columns(0) != 1 || b.Columns(1) != 3 {
		t.Errorf("P7: %d and %d columns", b.Columns(0), b.Columns(1))
	}
	for _, list := range [][]int{{0, 0, 0}, {0, 7, 2}} {
		if !b.Fits(1, list) {
			t.Errorf("P7: %v does not fit", list)
		}
	}
	for _, list := range [][]int{{1, 0, 0}, {0, 8, 0}, {0, 0, 3}, {0, -1, 0}, {0, 7, 4}, {0, 1 << 62, 0}} {
		if b.Fits(1, list) {
			t.Errorf("P7: %v fits", list)
		}
	}
}

func TestAssignments(t *testing.T) {
	seen := map[int]int{}
	for n := range 512 {
		list := []int{n / 64, n / 8 % 8, n % 8}
		assignment := assignmentOf(list)
		if got := tupleOf(assignment, 3); !slices.Equal(got, list) {
			t.Fatalf("%v comes back as %v", list, got)
		}
		seen[assignment] = n
	}
	if len(seen) != 512 {
		t.Errorf("%d assignments", len(seen))
	}
}

func TestNames(t *testing.T) {
	b := Work(program.Read(rounds))
	for i, name := range b.Names() {
		if place, there := b.Place(name); place != i || !there {
			t.Errorf("P6: %q is at %d, %v, want %d", name, place, there, i)
		}
	}
	if _, there := b.Place("d"); there {
		t.Error("P6: a dom is a relation")
	}
	if n := b.Layer(2); n != 1 {
		t.Errorf("P6: layer %d, want 1", n)
	}
}
