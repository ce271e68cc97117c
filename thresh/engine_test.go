package thresh_test

import (
	"fmt"
	"maps"
	"math/rand"
	"slices"
	"strings"
	"testing"

	"thresh/api"
	"thresh/thresh"
)

func load(t *testing.T, text string) *thresh.Engine {
	t.Helper()
	e, f := thresh.Load(text)
	if e == nil || f != (api.Fault{}) {
		t.Fatalf("P6: Load(%q) = %v, %v", text, e, f)
	}
	return e
}

// has holds the tuples of a rel against those wanted, written as 01 12.
func has(t *testing.T, e *thresh.Engine, rel, want string) {
	t.Helper()
	list, err := e.Tuples(rel)
	if err != api.OK {
		t.Fatalf("P6: Tuples(%q): error %d", rel, err)
	}
	var got []string
	for _, tuple := range list {
		got = append(got, strings.Trim(strings.ReplaceAll(fmt.Sprint(tuple), " ", ""), "[]"))
	}
	if strings.Join(got, " ") != want {
		t.Errorf("P6: Tuples(%q) = %v, want %q", rel, got, want)
	}
}

// layers holds the layers of all rels, in their order, against those wanted.
func layers(t *testing.T, e *thresh.Engine, want ...int) {
	t.Helper()
	var got []int
	for _, rel := range e.Relations() {
		n, err := e.Layer(rel)
		if err != api.OK {
			t.Errorf("P6: Layer(%q): error %d", rel, err)
		}
		got = append(got, n)
	}
	if !slices.Equal(got, want) {
		t.Errorf("P6: layers %v, want %v", got, want)
	}
}

const paths = "dom d 4; rel e(d, d); rel p(d, d); rel q(d, d); e(0, 1). e(1, 2). p(X, Y) :- e(X, Y). p(X, Z) :- p(X, Y), e(Y, Z). q(X, Y) :- p(X, X1), p(Y1, Y), !p(X, Y)."

func TestPaths(t *testing.T) {
	e := load(t, paths)
	has(t, e, "e", "01 12")
	has(t, e, "p", "01 02 12")
	has(t, e, "q", "11")
	layers(t, e, 0, 0, 1)
}

func TestRelations(t *testing.T) {
	e := load(t, "")
	if l := e.Relations(); len(l) != 0 {
		t.Errorf("P6: Relations = %q", l)
	}
	e = load(t, "dom z 1; rel y(z); y(0). rel x(z, z); rel long12(z); dom a 1; rel b(a);")
	if l := e.Relations(); !slices.Equal(l, []string{"y", "x", "long12", "b"}) {
		t.Errorf("P6: Relations = %q", l)
	}
	for _, rel := range []string{"", "z", "a", "Y", "y ", "rel", "long1", "y(0)", "\xff", strings.Repeat("y", 5000)} {
		if n, err := e.Layer(rel); n != 0 || err != api.ErrName {
			t.Errorf("P6: Layer(%q) = %d, %d", rel, n, err)
		}
		if l, err := e.Tuples(rel); len(l) != 0 || err != api.ErrName {
			t.Errorf("P6: Tuples(%q) = %v, %d", rel, l, err)
		}
	}
	has(t, e, "y", "0")
	has(t, e, "x", "")
	has(t, e, "b", "")
	layers(t, e, 0, 0, 0, 0)
}

func TestFacts(t *testing.T) {
	e := load(t, "dom d 8; dom c 2; rel a(d, c, d); a(7, 1, 0). a(0, 0, 7). a(7, 0, 7). a(07, 01, 00). a(7, 1, 0). a(4, 1, 3). a(4, 0, 6). a(0, 0, 0).")
	has(t, e, "a", "000 007 406 413 707 710")
	e = load(t, "dom d 1; rel a(d); rel b(d, d, d); rel c(d); a(0). b(X, X, X) :- a(X).")
	has(t, e, "a", "0")
	has(t, e, "b", "000")
	has(t, e, "c", "")
}

func TestAllTuples(t *testing.T) {
	e := load(t, "dom d 8; rel n(d); rel s(d, d); rel t(d, d, d); n(0). s(0, 1). s(1, 2). s(2, 3). s(3, 4). s(4, 5). s(5, 6). s(6, 7). n(Y) :- n(X), s(X, Y). t(Z, X, Y) :- n(X), n(Y), n(Z).")
	has(t, e, "n", "0 1 2 3 4 5 6 7")
	list, _ := e.Tuples("t")
	if len(list) != 512 {
		t.Fatalf("P6: %d tuples", len(list))
	}
	for i, tuple := range list {
		if !slices.Equal(tuple, []int{i / 64, i / 8 % 8, i % 8}) {
			t.Fatalf("P6: tuple %d is %v", i, tuple)
		}
	}
}

// TestManyRounds counts, in three columns, one number a round.
func TestManyRounds(t *testing.T) {
	e := load(t, "dom d 8; rel s(d, d); rel t(d, d, d); rel o(d); s(0, 1). s(1, 2). s(2, 3). s(3, 4). s(4, 5). s(5, 6). s(6, 7). t(0, 0, 0). t(X, Y, Z) :- t(X, Y, W), s(W, Z). t(X, Z, 0) :- t(X, Y, 7), s(Y, Z). t(Z, 0, 0) :- t(X, 7, 7), s(X, Z). o(1) :- t(7, 7, 6). o(2) :- t(7, 7, 7), !s(7, 0). o(3) :- !t(7, 7, 7).")
	if list, _ := e.Tuples("t"); len(list) != 512 {
		t.Errorf("P6: %d tuples", len(list))
	}
	has(t, e, "o", "1 2")
	layers(t, e, 0, 0, 1)
}

func TestTerms(t *testing.T) {
	e := load(t, `dom d 4; rel e(d, d, d); rel a(d); rel b(d, d); rel c(d, d, d); rel f(d, d, d);
		e(0, 0, 0). e(1, 1, 2). e(1, 2, 1). e(2, 1, 1). e(3, 2, 1).
		a(X) :- e(X, X, X). a(3) :- e(Y, 1, 1).
		b(X, Y) :- e(X, X, Y). b(Y, X) :- e(X, Y, X). b(1, X) :- e(X, 2, 1).
		c(X, X, X) :- a(X). c(2, X, 2) :- a(X). c(X, 1, X) :- b(X, 2). c(Y, X, X) :- b(X, Y).
		f(3, 2, 1) :- e(3, 2, 1). f(1, 2, 3) :- e(1, 2, 3). f(0, X, 1) :- e(X, Y, Z), e(Y, X, Z), e(Z, Z, X).`)
	has(t, e, "a", "0 3")
	has(t, e, "b", "00 11 12 13 21")
	has(t, e, "c", "000 111 122 202 211 232 311 333")
	has(t, e, "f", "001 021 321")
}

func TestContraries(t *testing.T) {
	e := load(t, "dom d 4; rel x(d); rel a(d); rel b(d); rel c(d); rel n(d); x(0). x(1). x(2). x(3). a(1). a(3) :- x(3). b(X) :- x(X), !a(X). c(X) :- !b(X), x(X), !a(1). c(X) :- x(X), !b(X), !n(X). n(0) :- !x(0).")
	has(t, e, "a", "1 3")
	has(t, e, "b", "0 2")
	has(t, e, "c", "1 3")
	has(t, e, "n", "")
	layers(t, e, 0, 0, 1, 2, 1)
	// six layers, written from the top down
	e = load(t, "dom d 1; rel a(d); rel b(d); rel c(d); rel e(d); rel f(d); rel g(d); a(0) :- !b(0). b(0) :- !c(0). c(0) :- !e(0). e(0) :- !f(0). f(0) :- !g(0).")
	layers(t, e, 5, 4, 3, 2, 1, 0)
	for rel, want := range map[string]string{"a": "0", "b": "", "c": "0", "e": "", "f": "0", "g": ""} {
		has(t, e, rel, want)
	}
	// a layer is that of all that hang on each other, and facts raise none
	e = load(t, "dom d 2; rel a(d); rel b(d); rel c(d); rel e(d); rel f(d); e(0). a(0). a(X) :- b(X). b(X) :- c(X). c(X) :- a(X). c(X) :- e(X), !e(1). f(X) :- c(X), !c(1).")
	layers(t, e, 1, 1, 1, 0, 2)
	has(t, e, "b", "0")
	has(t, e, "f", "0")
	// a rel of a layer that nothing defines but one of whose rules has a lit with !
	e = load(t, "dom d 2; rel a(d); rel b(d); a(0) :- b(0), !b(1). b(1).")
	layers(t, e, 1, 0)
	has(t, e, "a", "")
}

// TestOrderOfClauses: rounds of one layer see the facts and what came ahead, whatever the order of the text.
func TestOrderOfClauses(t *testing.T) {
	clauses := strings.SplitAfter("e(0, 1).e(1, 2).e(2, 3).p(X, Y) :- e(X, Y).p(X, Z) :- p(X, Y), p(Y, Z).l(X) :- p(X, Y), !p(Y, X), !e(X, 3).", ".")
	dice := rand.New(rand.NewSource(2))
	for range 20 {
		dice.Shuffle(len(clauses), func(i, j int) { clauses[i], clauses[j] = clauses[j], clauses[i] })
		e := load(t, "dom d 4; rel l(d); rel p(d, d); rel e(d, d);"+strings.Join(clauses, ""))
		has(t, e, "p", "01 02 03 12 13 23")
		has(t, e, "l", "0 1")
		layers(t, e, 1, 0, 0)
	}
}

// TestFresh writes into all that came out, spare room too.
func TestFresh(t *testing.T) {
	e, other := load(t, paths), load(t, paths)
	first, _ := e.Tuples("p")
	second, _ := e.Tuples("p")
	for _, list := range [][][]int{first, first[:cap(first)]} {
		for i := range list {
			row := list[i][:cap(list[i])]
			for j := range row {
				row[j] = 9
			}
			list[i] = nil
		}
	}
	if fmt.Sprint(second) != "[[0 1] [0 2] [1 2]]" {
		t.Errorf("P2: what came out changes to %v", second)
	}
	// the rows of one answer have nothing in common
	for i, row := range second {
		_ = append(row, 7, 7, 7)
		row[0] = 10 + i
	}
	if fmt.Sprint(second) != "[[10 1] [11 2] [12 2]]" {
		t.Errorf("P2: rows of one answer change each other: %v", second)
	}
	names := e.Relations()
	again := e.Relations()
	for i := range names[:cap(names)] {
		names[:cap(names)][i] = "gone"
	}
	if want := []string{"e", "p", "q"}; !slices.Equal(again, want) || !slices.Equal(e.Relations(), want) {
		t.Errorf("P2: Relations = %q, later %q", again, e.Relations())
	}
	for _, engine := range []*thresh.Engine{e, other} {
		has(t, engine, "p", "01 02 12")
		has(t, engine, "q", "11")
		layers(t, engine, 0, 0, 1)
	}
}

func TestEnginesApart(t *testing.T) {
	a := load(t, "dom d 2; rel a(d); rel b(d); a(0).")
	b := load(t, "dom d 2; rel b(d); rel a(d); a(1). b(0) :- !a(0).")
	has(t, a, "a", "0")
	has(t, a, "b", "")
	has(t, b, "a", "1")
	has(t, b, "b", "0")
	layers(t, a, 0, 0)
	layers(t, b, 1, 0)
}

// tells holds all that an engine tells against all that follows by the document's words, which it answers by rel and tuple.
func tells(t *testing.T, e *thresh.Engine, s *said) map[string]map[string]int {
	t.Helper()
	if !slices.Equal(e.Relations(), s.rels) {
		t.Fatalf("P6: %s\nRelations = %q", s.text(), e.Relations())
	}
	all := s.ranks()
	for rel, ranks := range all {
		layer, err := e.Layer(rel)
		if want := s.layer(rel, nil); layer != want || err != api.OK {
			t.Fatalf("P6: %s\nLayer(%q) = %d, %d, want %d", s.text(), rel, layer, err, want)
		}
		list, err := e.Tuples(rel)
		var got []string
		for _, tuple := range list {
			got = append(got, fmt.Sprint(tuple))
		}
		// One digit a number: sorted as texts they are sorted as tuples.
		if want := slices.Sorted(maps.Keys(ranks)); !slices.Equal(got, want) || err != api.OK {
			t.Fatalf("P6: %s\nTuples(%q) = %v, %d, want %v", s.text(), rel, got, err, want)
		}
		for _, tuple := range s.space(rel) {
			want, there := ranks[fmt.Sprint(tuple)]
			rank, err := e.Rank(rel, tuple)
			if rank != want || there && err != api.OK || !there && err != api.ErrNone {
				t.Fatalf("P7: %s\nRank(%q, %v) = %d, %d, want %d, %v", s.text(), rel, tuple, rank, err, want, there)
			}
		}
	}
	return all
}

// TestEnginesAgainstSaid holds engines of programs that were written by chance against all that follows by the document's words.
func TestEnginesAgainstSaid(t *testing.T) {
	dice := rand.New(rand.NewSource(12))
	engines, late, high, most := 0, 0, 0, 0
	for engines < 1500 {
		text := strings.Join(write(dice), "")
		s, fault := listen(text)
		if fault.Code != api.OK {
			continue
		}
		engines++
		for rel, ranks := range tells(t, load(t, text), s) {
			high, most = max(high, s.layer(rel, nil)), max(most, len(ranks))
			late = max(late, slices.Max(append(slices.Collect(maps.Values(ranks)), 0)))
		}
	}
	if late < 4 || high < 3 || most < 20 {
		t.Errorf("the programs are too plain: at most %d rounds, %d layers, %d tuples", late, high, most)
	}
}
