package rules

import (
	"fmt"
	"slices"
	"testing"

	"thresh/diagram"
	"thresh/program"
)

const rounds = "dom d 5; rel e(d, d); rel p(d, d); rel q(d, d, d); e(0, 1). e(1, 2). e(2, 3). e(3, 4). p(X, Y) :- e(X, Y). p(X, Z) :- p(X, Y), e(Y, Z). q(X, Y, X) :- p(X, Y), !p(0, X)."

func TestTuplesStop(t *testing.T) {
	b := Work(program.Read(rounds))
	all := slices.Collect(b.Tuples(1))
	if fmt.Sprint(all) != "[[0 1] [0 2] [0 3] [0 4] [1 2] [1 3] [1 4] [2 3] [2 4] [3 4]]" {
		t.Fatalf("P6: %v", all)
	}
	for stop := 1; stop <= len(all); stop++ {
		var got [][]int
		for tuple := range b.Tuples(1) {
			got = append(got, tuple)
			if len(got) == stop {
				break
			}
		}
		if fmt.Sprint(got) != fmt.Sprint(all[:stop]) {
			t.Errorf("P6: the first %d are %v", stop, got)
		}
	}
}

// TestNothingKept: behind the work there are the nodes of the relations alone.
func TestNothingKept(t *testing.T) {
	b := Work(program.Read(rounds))
	var roots []int
	for _, r := range b.rels {
		roots = append(roots, r.tuples)
	}
	needed := map[int]diagram.Node{}
	for f, n := range b.diagrams.Nodes(roots...) {
		needed[f] = n
	}
	if b.diagrams.Len() != len(needed) {
		t.Errorf("%d nodes are kept, %d are needed", b.diagrams.Len(), len(needed))
	}
}

func TestNames(t *testing.T) {
	b := Work(program.Read(rounds))
	for i, name := range b.Names() {
		if place, there := b.Place(name); place != i || !there {
			t.Errorf("P6: %q is at %d, %v, want %d", name, place, there, i)
		}
	}
	if _, there := b.Place("d"); there {
		t.Error("P6: a dom is a relation")
	}
	if n := b.Layer(2); n != 1 {
		t.Errorf("P6: layer %d, want 1", n)
	}
}
