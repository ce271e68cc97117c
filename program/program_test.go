package program

import (
	"fmt"
	"testing"

	"thresh/api"
)

// given tells what Read panics with.
func given(text string) (what any) {
	defer func() { what = recover() }()
	Read(text)
	return nil
}

func TestGivenUp(t *testing.T) {
	for text, want := range map[string]any{
		"dom d 3;":               nil,
		"\n$":                    api.Fault{Code: api.ErrSyntax, Line: 2},
		"\nrel":                  api.Fault{Code: api.ErrSyntax, Line: 2},
		"\n\ndom d 9;":           api.Fault{Code: api.ErrRange, Line: 3},
		"dom d 1;rel a(d);a(X).": api.Fault{Code: api.ErrUnsafe, Line: 1},
	} {
		if got := given(text); got != want {
			t.Errorf("P5: Read(%q) gives up with %v, want %v", text, got, want)
		}
	}
}

func TestRead(t *testing.T) {
	p := Read("dom c 2; dom d 8; rel a(d); rel b(c, d); a(07). b(X, Y) :- b(X, Z), !a(Y), a(Y), b(1, Y).")
	if got := fmt.Sprint(p.Rels); got != "[{a [8] 0} {b [2 8] 1}]" {
		t.Errorf("P6: rels %s", got)
	}
	if got := fmt.Sprint(p.Clauses); got != "[{{0 [{false 7}]} []} {{1 [{true 0} {true 1}]} [{{1 [{true 0} {true 2}]} false} {{0 [{true 1}]} true} {{0 [{true 1}]} false} {{1 [{false 1} {true 1}]} false}]}]" {
		t.Errorf("P6: clauses %s", got)
	}
	if vars := p.Clauses[1].Lits[0].Vars(); vars != 0b101 {
		t.Errorf("P5: VARs %b", vars)
	}
}
