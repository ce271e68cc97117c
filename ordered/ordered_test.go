package ordered

import (
	"slices"
	"testing"
)

func TestOrder(t *testing.T) {
	var s Set[string]
	for i, c := range []struct {
		thing string
		place int
	}{{"c", 0}, {"a", 1}, {"c", 0}, {"", 2}, {"b", 3}, {"a", 1}, {"", 2}} {
		if place := s.Add(c.thing); place != c.place {
			t.Errorf("Add %d: %q at %d, want %d", i, c.thing, place, c.place)
		}
	}
	want := []string{"c", "a", "", "b"}
	if s.Len() != len(want) {
		t.Errorf("Len = %d", s.Len())
	}
	var got []string
	for place, thing := range s.All() {
		if place != len(got) {
			t.Errorf("%q at %d, want %d", thing, place, len(got))
		}
		got = append(got, thing)
	}
	if !slices.Equal(got, want) {
		t.Errorf("All = %q, want %q", got, want)
	}
	for i, thing := range want {
		if place, there := s.Place(thing); place != i || !there {
			t.Errorf("Place(%q) = %d, %v", thing, place, there)
		}
	}
	if place, there := s.Place("d"); place != 0 || there {
		t.Errorf("Place of what is not there = %d, %v", place, there)
	}
}

func TestEmpty(t *testing.T) {
	var s Set[[2]int]
	if _, there := s.Place([2]int{}); there || s.Len() != 0 {
		t.Error("an empty set has something")
	}
	for range s.All() {
		t.Error("an empty set tells something")
	}
	s.Add([2]int{1, 2})
	if _, there := s.Place([2]int{1, 2}); !there {
		t.Error("a pair is not found")
	}
}
