package thresh_test

import (
	"fmt"
	"math"
	"math/rand"
	"slices"
	"strings"
	"testing"

	"thresh/api"
	"thresh/thresh"
)

// came holds the ranks of a rel's tuples against those wanted, written as 01:0 12:3. All others of the numbers below size must not follow.
func came(t *testing.T, e *thresh.Engine, rel string, columns, size int, want string) {
	t.Helper()
	var got []string
	for n := range int(math.Pow(float64(size), float64(columns))) {
		tuple := make([]int, columns)
		text := ""
		for i := range tuple {
			tuple[columns-1-i] = n % size
			text = fmt.Sprint(n%size) + text
			n /= size
		}
		rank, err := e.Rank(rel, tuple)
		switch err {
		case api.OK:
			got = append(got, fmt.Sprint(text, ":", rank))
		case api.ErrNone:
			if rank != 0 {
				t.Errorf("P1: Rank(%q, %v) = %d with an error", rel, tuple, rank)
			}
		default:
			t.Fatalf("P7: Rank(%q, %v): error %d", rel, tuple, err)
		}
	}
	if strings.Join(got, " ") != want {
		t.Errorf("P7: ranks of %q are %v, want %q", rel, got, want)
	}
}

func answers(t *testing.T, what string, got, want api.Errno) {
	t.Helper()
	if got != want {
		t.Errorf("P7: %s: error %d, want %d", what, got, want)
	}
}

func adds(t *testing.T, e *thresh.Engine, rel string, tuple ...int) {
	t.Helper()
	answers(t, fmt.Sprint("Add ", rel, tuple), e.Add(rel, tuple), api.OK)
}

func removes(t *testing.T, e *thresh.Engine, rel string, tuple ...int) {
	t.Helper()
	answers(t, fmt.Sprint("Remove ", rel, tuple), e.Remove(rel, tuple), api.OK)
}

// picture tells all that an engine tells, of tuples with numbers below 8.
func picture(e *thresh.Engine) string {
	var b strings.Builder
	for _, rel := range e.Relations() {
		layer, err := e.Layer(rel)
		list, other := e.Tuples(rel)
		fmt.Fprintln(&b, rel, layer, err, list, other)
		for columns := 1; columns <= 3; columns++ {
			for n := range 1 << (3 * columns) {
				tuple := []int{n & 7, n >> 3 & 7, n >> 6}[:columns]
				rank, err := e.Rank(rel, tuple)
				fmt.Fprint(&b, rank, err, " ")
			}
		}
	}
	return b.String()
}

func TestRankOfPaths(t *testing.T) {
	e := load(t, paths)
	came(t, e, "e", 2, 4, "01:0 12:0")
	came(t, e, "p", 2, 4, "01:1 02:2 12:1")
	came(t, e, "q", 2, 4, "11:1")
}

func TestRankOfRounds(t *testing.T) {
	e := load(t, "dom d 8; rel s(d, d); rel n(d); s(0, 1). s(1, 2). s(2, 3). s(3, 4). s(4, 5). s(5, 6). s(6, 7). n(0). n(4). n(Y) :- n(X), s(X, Y).")
	came(t, e, "n", 1, 8, "0:0 1:1 2:2 3:3 4:0 5:1 6:2 7:3")
	// one that two ways bring is of the earlier round, and one that a rule brings but that is a fact of round 0
	e = load(t, "dom d 5; rel a(d); a(0). a(1) :- a(0). a(2) :- a(1). a(3) :- a(2). a(3) :- a(1). a(0) :- a(3). a(4) :- a(2), a(3). a(4) :- a(4).")
	came(t, e, "a", 1, 5, "0:0 1:1 2:2 3:2 4:3")
	// a round sees nothing that comes in it, whatever the order of the rules
	e = load(t, "dom d 4; rel a(d); rel b(d); rel c(d); c(X) :- b(X). b(X) :- a(X). a(3) :- c(0). a(0).")
	came(t, e, "a", 1, 4, "0:0 3:3")
	came(t, e, "b", 1, 4, "0:1 3:4")
	came(t, e, "c", 1, 4, "0:2 3:5")
}

// TestRankOfLayers: each layer counts its rounds from 1 on, and facts are at 0 in each.
func TestRankOfLayers(t *testing.T) {
	e := load(t, `dom d 4; rel z(d); rel y(d); rel x(d); rel n(d);
		n(0). n(1) :- n(0). n(2) :- n(1). n(3) :- n(2).
		x(1) :- n(3), !n(0). x(0) :- n(3). x(2) :- x(0). x(1) :- x(2).
		y(X) :- n(X), !x(X). y(2) :- y(3). y(1) :- y(2). y(0).
		z(X) :- y(X), !x(X). z(1) :- z(3), !y(0). z(2) :- z(3).`)
	layers(t, e, 3, 2, 1, 0)
	came(t, e, "n", 1, 4, "0:0 1:1 2:2 3:3")
	came(t, e, "x", 1, 4, "0:1 1:3 2:2")
	came(t, e, "y", 1, 4, "0:0 1:3 2:2 3:1")
	came(t, e, "z", 1, 4, "2:2 3:1")
}

func TestRankOfManyRounds(t *testing.T) {
	e := load(t, "dom d 8; rel s(d, d); rel t(d, d, d); s(0, 1). s(1, 2). s(2, 3). s(3, 4). s(4, 5). s(5, 6). s(6, 7). t(0, 0, 0). t(X, Y, Z) :- t(X, Y, W), s(W, Z). t(X, Z, 0) :- t(X, Y, 7), s(Y, Z). t(Z, 0, 0) :- t(X, 7, 7), s(X, Z).")
	for want := range 512 {
		if n, err := e.Rank("t", []int{want / 64, want / 8 % 8, want % 8}); n != want || err != api.OK {
			t.Fatalf("P7: rank %d, %d, want %d", n, err, want)
		}
	}
	// half of the way is a fact: what is behind it comes from there
	adds(t, e, "t", 4, 0, 0)
	for i := range 512 {
		if n, err := e.Rank("t", []int{i / 64, i / 8 % 8, i % 8}); n != i%256 || err != api.OK {
			t.Fatalf("P7: rank %d, %d, want %d", n, err, i%256)
		}
	}
}

func TestAdd(t *testing.T) {
	e := load(t, "dom d 4; rel e(d, d); rel p(d, d); p(X, Y) :- e(X, Y). p(X, Z) :- p(X, Y), e(Y, Z).")
	came(t, e, "p", 2, 4, "")
	adds(t, e, "e", 0, 1)
	adds(t, e, "e", 2, 3)
	came(t, e, "p", 2, 4, "01:1 23:1")
	adds(t, e, "e", 1, 2)
	came(t, e, "e", 2, 4, "01:0 12:0 23:0")
	came(t, e, "p", 2, 4, "01:1 02:2 03:3 12:1 13:2 23:1")
	has(t, e, "p", "01 02 03 12 13 23")
	// one that follows already is no fact before it is added
	adds(t, e, "p", 0, 2)
	came(t, e, "p", 2, 4, "01:1 02:0 03:1 12:1 13:2 23:1")
	answers(t, "Add again", e.Add("p", []int{0, 2}), api.ErrTwice)
	answers(t, "Add again", e.Add("e", []int{0, 1}), api.ErrTwice)
	// and goes back to its rank
	removes(t, e, "p", 0, 2)
	came(t, e, "p", 2, 4, "01:1 02:2 03:3 12:1 13:2 23:1")
	// facts alone bring others, too
	adds(t, e, "p", 3, 0)
	came(t, e, "p", 2, 4, "01:1 02:2 03:3 12:1 13:2 23:1 30:0 31:1 32:2 33:3")
}

func TestRemove(t *testing.T) {
	e := load(t, paths)
	answers(t, "Remove of what follows", e.Remove("p", []int{0, 1}), api.ErrNone)
	answers(t, "Remove of what does not", e.Remove("p", []int{3, 3}), api.ErrNone)
	removes(t, e, "e", 0, 1)
	answers(t, "Remove again", e.Remove("e", []int{0, 1}), api.ErrNone)
	has(t, e, "e", "12")
	has(t, e, "p", "12")
	came(t, e, "p", 2, 4, "12:1")
	has(t, e, "q", "")
	removes(t, e, "e", 1, 2)
	for _, rel := range e.Relations() {
		has(t, e, rel, "")
		came(t, e, rel, 2, 4, "")
	}
	layers(t, e, 0, 0, 1)
}

// TestRemoveWhatFollows: what is no fact any more may follow all the same.
func TestRemoveWhatFollows(t *testing.T) {
	e := load(t, "dom d 3; rel a(d); rel b(d); a(0). b(0). b(1). b(2). b(X) :- a(X). b(2) :- b(1).")
	came(t, e, "b", 1, 3, "0:0 1:0 2:0")
	removes(t, e, "b", 0)
	removes(t, e, "b", 2)
	came(t, e, "b", 1, 3, "0:1 1:0 2:1")
	answers(t, "Remove of what follows only", e.Remove("b", []int{0}), api.ErrNone)
	removes(t, e, "b", 1)
	came(t, e, "b", 1, 3, "0:1")
	// what only brings itself is not there
	e = load(t, "dom d 2; rel a(d); rel b(d); a(1). a(X) :- b(X). b(X) :- a(X).")
	came(t, e, "b", 1, 2, "1:1")
	removes(t, e, "a", 1)
	came(t, e, "a", 1, 2, "")
	came(t, e, "b", 1, 2, "")
}

func TestFactsBehindContraries(t *testing.T) {
	e := load(t, "dom d 3; rel x(d); rel a(d); rel b(d); rel c(d); x(0). x(1). x(2). b(X) :- x(X), !a(X). c(X) :- x(X), !b(X). c(1) :- c(0).")
	layers(t, e, 0, 0, 1, 2)
	has(t, e, "b", "0 1 2")
	has(t, e, "c", "")
	adds(t, e, "a", 0)
	came(t, e, "b", 1, 3, "1:1 2:1")
	came(t, e, "c", 1, 3, "0:1 1:2")
	adds(t, e, "a", 1)
	came(t, e, "b", 1, 3, "2:1")
	came(t, e, "c", 1, 3, "0:1 1:1")
	// a fact of the middle layer
	adds(t, e, "b", 0)
	came(t, e, "a", 1, 3, "0:0 1:0")
	came(t, e, "b", 1, 3, "0:0 2:1")
	came(t, e, "c", 1, 3, "1:1")
	removes(t, e, "a", 0)
	came(t, e, "b", 1, 3, "0:0 2:1")
	removes(t, e, "b", 0)
	came(t, e, "b", 1, 3, "0:1 2:1")
	removes(t, e, "a", 1)
	has(t, e, "b", "0 1 2")
	has(t, e, "c", "")
	// a fact of the top layer changes nothing below it
	adds(t, e, "c", 0)
	came(t, e, "x", 1, 3, "0:0 1:0 2:0")
	came(t, e, "b", 1, 3, "0:1 1:1 2:1")
	came(t, e, "c", 1, 3, "0:0 1:1")
}

// TestFactsWithoutRules: a rel that no clause names has facts as well.
func TestFactsWithoutRules(t *testing.T) {
	e := load(t, "dom d 8; dom c 1; rel a(d); rel b(c, d, c); rel f(c);")
	adds(t, e, "a", 7)
	adds(t, e, "a", 0)
	adds(t, e, "b", 0, 7, 0)
	adds(t, e, "f", 0)
	has(t, e, "a", "0 7")
	has(t, e, "b", "070")
	has(t, e, "f", "0")
	removes(t, e, "a", 7)
	removes(t, e, "f", 0)
	has(t, e, "a", "0")
	has(t, e, "f", "")
	layers(t, e, 0, 0, 0)
}

// errorsOf makes each of the three calls with the same arguments.
func errorsOf(e *thresh.Engine, rel string, tuple []int) [3]api.Errno {
	n, err := e.Rank(rel, tuple)
	if err != api.OK && n != 0 {
		err = -1
	}
	return [3]api.Errno{err, e.Add(rel, tuple), e.Remove(rel, tuple)}
}

func TestWrongTuples(t *testing.T) {
	e := load(t, "dom c 1; dom d 8; dom f 3; rel a(f); rel b(d, c, f); rel u(d, d); b(7, 0, 2). a(2). u(X, X) :- b(X, Y, Z).")
	before := picture(e)
	long := make([]int, 5000)
	for _, c := range []struct {
		rel   string
		tuple []int
		want  api.Errno
	}{
		{"", nil, api.ErrName}, {"x", []int{0}, api.ErrName}, {"A", []int{9}, api.ErrName}, {"a ", []int{2}, api.ErrName}, {"c", []int{0}, api.ErrName}, {"d", long, api.ErrName}, {"rel", []int{-1}, api.ErrName}, {"\xff", nil, api.ErrName}, {strings.Repeat("a", 3000), []int{0}, api.ErrName},
		{"a", nil, api.ErrArity}, {"a", []int{}, api.ErrArity}, {"a", []int{0, 0}, api.ErrArity}, {"a", []int{9, 9}, api.ErrArity}, {"a", long, api.ErrArity},
		{"b", []int{7}, api.ErrArity}, {"b", []int{7, 0}, api.ErrArity}, {"b", []int{9, -9}, api.ErrArity}, {"b", []int{7, 0, 2, 0}, api.ErrArity}, {"u", []int{7, 7, 7}, api.ErrArity}, {"u", []int{8}, api.ErrArity},
		{"a", []int{3}, api.ErrRange}, {"a", []int{-1}, api.ErrRange}, {"a", []int{4}, api.ErrRange}, {"a", []int{10}, api.ErrRange}, {"a", []int{math.MaxInt}, api.ErrRange}, {"a", []int{math.MinInt}, api.ErrRange}, {"a", []int{1<<32 + 2}, api.ErrRange},
		{"b", []int{8, 0, 2}, api.ErrRange}, {"b", []int{7, 1, 2}, api.ErrRange}, {"b", []int{7, 0, 3}, api.ErrRange}, {"b", []int{-1, 0, 2}, api.ErrRange}, {"b", []int{7, -8, 2}, api.ErrRange}, {"b", []int{7, 0, -6}, api.ErrRange}, {"b", []int{15, 0, 2}, api.ErrRange},
		{"u", []int{8, 8}, api.ErrRange}, {"u", []int{7, 8}, api.ErrRange}, {"u", []int{math.MinInt, 7}, api.ErrRange},
	} {
		if got := errorsOf(e, c.rel, c.tuple); got != [3]api.Errno{c.want, c.want, c.want} {
			t.Errorf("P7: %q, %d numbers: errors %v, want %d", c.rel, len(c.tuple), got, c.want)
		}
	}
	for _, tuple := range [][]int{{6, 7}, {0, 0}} {
		if n, err := e.Rank("u", tuple); n != 0 || err != api.ErrNone {
			t.Errorf("P7: Rank(u, %v) = %d, %d", tuple, n, err)
		}
		answers(t, "Remove", e.Remove("u", tuple), api.ErrNone)
	}
	answers(t, "Remove", e.Remove("u", []int{7, 7}), api.ErrNone)
	answers(t, "Add", e.Add("b", []int{7, 0, 2}), api.ErrTwice)
	answers(t, "Add", e.Add("a", []int{2}), api.ErrTwice)
	if picture(e) != before {
		t.Error("P1: calls with errors change something")
	}
	none := load(t, "")
	if got := errorsOf(none, "", nil); got != [3]api.Errno{api.ErrName, api.ErrName, api.ErrName} {
		t.Errorf("P7: without rels: errors %v", got)
	}
}

func TestManyFacts(t *testing.T) {
	e := load(t, "dom d 8; rel b(d, d); rel a(d); rel t(d, d, d); a(X) :- b(X, X). t(X, X, X) :- a(X).")
	for i := range 60 {
		adds(t, e, []string{"b", "t"}[i%2], []int{i / 8, i % 8, 5}[:2+i%2]...)
	}
	before := picture(e)
	for _, n := range []int{0, 1, 7} {
		// whether it follows already or not
		answers(t, "Add of one more", e.Add("a", []int{n}), api.ErrMany)
		answers(t, "Add of one more", e.Add("t", []int{n, n, n}), api.ErrMany)
	}
	answers(t, "Add of one that is there", e.Add("b", []int{0, 0}), api.ErrTwice)
	answers(t, "Add of one that is there", e.Add("t", []int{7, 3, 5}), api.ErrTwice)
	answers(t, "Add", e.Add("a", []int{8}), api.ErrRange)
	answers(t, "Add", e.Add("a", nil), api.ErrArity)
	answers(t, "Add", e.Add("c", []int{0}), api.ErrName)
	answers(t, "Remove of none", e.Remove("a", []int{0}), api.ErrNone)
	if picture(e) != before {
		t.Error("P1: calls with errors change something")
	}
	removes(t, e, "b", 0, 2)
	adds(t, e, "a", 3)
	answers(t, "Add of one more", e.Add("b", []int{0, 2}), api.ErrMany)
	removes(t, e, "a", 3)
	adds(t, e, "b", 0, 2)
	if picture(e) != before {
		t.Error("P8: facts that came and went change something")
	}
}

// TestManyFactsInText: those of the text count, each once, and rules do not.
func TestManyFactsInText(t *testing.T) {
	text := "dom d 8; rel b(d, d); rel a(d); rel c(d);"
	for i := range 49 {
		text += fmt.Sprintf("b(%d,%d).", i/8, i%8)
	}
	text += "b(0, 0). c(X) :- a(X). b(00,0)."
	e := load(t, text)
	for i := range 8 {
		adds(t, e, "a", i)
	}
	for i := range 3 {
		adds(t, e, "b", 7, i)
	}
	answers(t, "Add of one more", e.Add("b", []int{7, 3}), api.ErrMany)
	answers(t, "Add of one that stood there twice", e.Add("b", []int{0, 0}), api.ErrTwice)
	came(t, e, "c", 1, 8, "0:1 1:1 2:1 3:1 4:1 5:1 6:1 7:1")
	// taken away once it is gone, though it stood there three times
	removes(t, e, "b", 0, 0)
	answers(t, "Remove again", e.Remove("b", []int{0, 0}), api.ErrNone)
	if n, err := e.Rank("b", []int{0, 0}); n != 0 || err != api.ErrNone {
		t.Errorf("P7: Rank = %d, %d", n, err)
	}
	adds(t, e, "b", 7, 3)
	answers(t, "Add of one more", e.Add("b", []int{0, 0}), api.ErrMany)
	removes(t, e, "a", 7)
	adds(t, e, "b", 0, 0)
	came(t, e, "c", 1, 8, "0:1 1:1 2:1 3:1 4:1 5:1 6:1")
}

// TestListsOfTuples writes into lists that were handed in, and looks whether a call does.
func TestListsOfTuples(t *testing.T) {
	e := load(t, paths)
	room := []int{8, 2, 3, 9, 9, 9}
	list := room[1:3]
	adds(t, e, "e", list...)
	answers(t, "Add", e.Add("e", list), api.ErrTwice)
	if n, err := e.Rank("p", list); n != 1 || err != api.OK {
		t.Errorf("P7: Rank = %d, %d", n, err)
	}
	if !slices.Equal(room, []int{8, 2, 3, 9, 9, 9}) {
		t.Errorf("P2: a list that was handed in becomes %v", room)
	}
	for i := range room {
		room[i] = 0
	}
	has(t, e, "e", "01 12 23")
	came(t, e, "p", 2, 4, "01:1 02:2 03:3 12:1 13:2 23:1")
	room = []int{8, 2, 3, 9, 9, 9}
	removes(t, e, "e", room[1:3]...)
	answers(t, "Remove", e.Remove("e", room[1:3]), api.ErrNone)
	answers(t, "Add", e.Add("e", room[:3]), api.ErrArity)
	if !slices.Equal(room, []int{8, 2, 3, 9, 9, 9}) {
		t.Errorf("P2: a list that was handed in becomes %v", room)
	}
	for i := range room {
		room[i] = 1
	}
	has(t, e, "e", "01 12")
	came(t, e, "p", 2, 4, "01:1 02:2 12:1")
}

// TestTuplesStay: what came out ahead of a change is not changed by it.
func TestTuplesStay(t *testing.T) {
	e := load(t, paths)
	list, _ := e.Tuples("p")
	adds(t, e, "e", 2, 3)
	removes(t, e, "e", 0, 1)
	if fmt.Sprint(list) != "[[0 1] [0 2] [1 2]]" {
		t.Errorf("P2: what came out becomes %v", list)
	}
	for i := range list {
		list[i][0], list[i][1] = 3, 3
	}
	came(t, e, "p", 2, 4, "12:1 13:2 23:1")
}

func TestFactsApart(t *testing.T) {
	a, b := load(t, paths), load(t, paths)
	adds(t, a, "e", 2, 3)
	removes(t, b, "e", 0, 1)
	came(t, a, "p", 2, 4, "01:1 02:2 03:3 12:1 13:2 23:1")
	came(t, b, "p", 2, 4, "12:1")
	removes(t, a, "e", 0, 1)
	adds(t, b, "e", 2, 3)
	if picture(a) != picture(b) {
		t.Error("P7: the same facts, but not the same that follows")
	}
	fresh := load(t, paths)
	has(t, fresh, "p", "01 02 12")
	answers(t, "Remove of what is a fact elsewhere", fresh.Remove("e", []int{2, 3}), api.ErrNone)
}

// anyTuple tells a rel and a list, most of them right.
func anyTuple(dice *rand.Rand, s *said) (string, []int) {
	rel := s.rels[dice.Intn(len(s.rels))]
	var list []int
	for _, dom := range s.columns[rel] {
		n := dice.Intn(s.sizes[dom])
		if dice.Intn(20) == 0 {
			n = []int{-1, s.sizes[dom], 8, n + 8}[dice.Intn(4)]
		}
		list = append(list, n)
	}
	switch dice.Intn(20) {
	case 0:
		rel = "x"
	case 1:
		list = list[1:]
	case 2:
		list = append(list, 0)
	}
	return rel, list
}

// change makes a call by chance, on an engine and on what is said.
func change(t *testing.T, dice *rand.Rand, e *thresh.Engine, s *said) api.Errno {
	t.Helper()
	rel, list := anyTuple(dice, s)
	call, same := e.Add, s.add
	if dice.Intn(2) == 0 {
		call, same = e.Remove, s.remove
		// Most tuples are no facts: one of them is taken more often than that.
		if facts := s.facts(); len(facts) > 0 && dice.Intn(2) == 0 {
			heard, _ := listen(s.declared() + facts[dice.Intn(len(facts))])
			rel, list = heard.clauses[0].head.rel, nil
			for _, term := range heard.clauses[0].head.terms {
				list = append(list, int(term[0]-'0'))
			}
		}
	}
	want := same(rel, list)
	if err := call(rel, list); err != want {
		t.Fatalf("P7: %s\nwith %q, %v: error %d, want %d", s.text(), rel, list, err, want)
	}
	return want
}

// TestChangesAgainstSaid holds engines against the document's words and against engines newly made, behind each call.
func TestChangesAgainstSaid(t *testing.T) {
	dice := rand.New(rand.NewSource(31))
	seen := map[api.Errno]int{}
	late, fresh := 0, 0
	for engines := 0; engines < 250; {
		text := strings.Join(write(dice), "")
		s, fault := listen(text)
		if fault.Code != api.OK {
			continue
		}
		engines++
		e := load(t, text)
		for range 16 {
			seen[change(t, dice, e, s)]++
			for _, ranks := range tells(t, e, s) {
				for _, rank := range ranks {
					late = max(late, rank)
				}
			}
			// A text has room for fewer facts than an engine: not each state can be made anew of one.
			if other, fault := thresh.Load(s.text()); fault.Code == api.OK {
				fresh++
				if picture(e) != picture(other) {
					t.Fatalf("P7: %s\nan engine newly made of this tells other things", s.text())
				}
			}
		}
	}
	for _, err := range []api.Errno{api.OK, api.ErrName, api.ErrArity, api.ErrRange, api.ErrTwice, api.ErrNone} {
		if seen[err] < 40 {
			t.Errorf("the calls are too plain: error %d came %d times", err, seen[err])
		}
	}
	if late < 4 || fresh < 3500 {
		t.Errorf("the changes are too plain: at most %d rounds, %d engines made anew", late, fresh)
	}
}
