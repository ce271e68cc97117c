package thresh_test

import (
	"fmt"
	"math/rand"
	"slices"
	"strings"
	"testing"

	"thresh/api"
	"thresh/thresh"
)

// tables tells the values of functions under all assignments.
func tables(k calls, vars int, handles []int) string {
	var b strings.Builder
	for _, h := range handles {
		for a := range 1 << vars {
			is, err := k.Eval(h, a)
			fmt.Fprint(&b, is, err)
		}
		fmt.Fprintln(&b, pair(k.Count(h)), pair(k.Support(h)))
	}
	return b.String()
}

// mixed makes functions by chance, the same ones of the same dice, and tells their handles.
func mixed(dice *rand.Rand, k calls, vars int) []int {
	list := []int{0, 1}
	for i := range vars {
		h, _ := k.Var(i)
		list = append(list, h)
	}
	for range 24 {
		f, g, h := list[dice.Intn(len(list))], list[dice.Intn(len(list))], list[dice.Intn(len(list))]
		var made int
		switch dice.Intn(4) {
		case 0:
			made, _ = k.Ite(f, g, h)
		case 1:
			made, _ = k.Replace(f, dice.Perm(vars))
		case 2:
			made, _ = k.Exists(f, 1<<dice.Intn(vars))
		default:
			made, _ = k.Apply(dice.Intn(4), f, g)
		}
		list = append(list, made)
	}
	return list
}

// TestOrdersTellTheSame: no order of the variables changes what a function tells, be it made ahead of it or under it.
func TestOrdersTellTheSame(t *testing.T) {
	for seed := range int64(60) {
		dice := rand.New(rand.NewSource(seed))
		vars := 1 + dice.Intn(8)
		k, plain := begin(t, vars), begin(t, vars)
		list := mixed(rand.New(rand.NewSource(seed)), k, vars)
		same(t, "P3: handles", mixed(rand.New(rand.NewSource(seed)), plain, vars), list)
		want := tables(plain, vars, list)
		for range 20 {
			if dice.Intn(2) == 0 {
				k.Swap(dice.Intn(vars))
			} else {
				before := k.Total()
				i := dice.Intn(vars)
				k.Sift(i)
				if k.Total() > before {
					t.Fatalf("P8: Sift(%d) makes Total %d of %d", i, k.Total(), before)
				}
			}
			if tables(k, vars, list) != want {
				t.Fatalf("P8: by the order %v functions tell other things", k.Order())
			}
		}
		later := mixed(rand.New(rand.NewSource(-seed)), k, vars)
		same(t, "P8: handles", later, mixed(rand.New(rand.NewSource(-seed)), plain, vars))
		if tables(k, vars, later) != tables(plain, vars, later) {
			t.Fatalf("P8: by the order %v other functions are made", k.Order())
		}
	}
}

// turned writes a program's clauses and lits in another order, with other VARs.
func (s *said) turned(dice *rand.Rand) string {
	var list []string
	for _, c := range s.clauses {
		c.lits = slices.Clone(c.lits)
		dice.Shuffle(len(c.lits), func(i, j int) { c.lits[i], c.lits[j] = c.lits[j], c.lits[i] })
		list = append(list, c.renamed(dice).print())
	}
	dice.Shuffle(len(list), func(i, j int) { list[i], list[j] = list[j], list[i] })
	return s.declared() + strings.Join(list, "")
}

// renamed gives each VAR a name that another one may have had.
func (c saidClause) renamed(dice *rand.Rand) saidClause {
	names := []string{"X", "Y", "Z", "W", "A1", "A2", "B", "Q"}
	dice.Shuffle(len(names), func(i, j int) { names[i], names[j] = names[j], names[i] })
	put := map[string]string{}
	rename := func(a saidAtom) saidAtom {
		a.terms = slices.Clone(a.terms)
		for i, term := range a.terms {
			if !isCapital.MatchString(term) {
				continue
			}
			if _, there := put[term]; !there {
				put[term] = names[len(put)]
			}
			a.terms[i] = put[term]
		}
		return a
	}
	c.head = rename(c.head)
	c.lits = slices.Clone(c.lits)
	for i, l := range c.lits {
		c.lits[i] = rename(l)
	}
	return c
}

// programs tells so many programs that were written by chance, as they are said, and engines of them.
func programs(t *testing.T, dice *rand.Rand, count int, fits func(s *said) bool, each func(s *said, e *thresh.Engine)) {
	t.Helper()
	for count > 0 {
		text := strings.Join(write(dice), "")
		if s, fault := listen(text); fault.Code == api.OK && fits(s) {
			count--
			each(s, load(t, text))
		}
	}
}

// TestAnyOrderOfText: the order of clauses and lits, and the names of VARs, do not change what follows, nor when.
func TestAnyOrderOfText(t *testing.T) {
	dice := rand.New(rand.NewSource(81))
	short := func(s *said) bool { return len(s.text()) < 1100 }
	programs(t, dice, 200, short, func(s *said, e *thresh.Engine) {
		for range 3 {
			text := s.turned(dice)
			if picture(load(t, text)) != picture(e) {
				t.Fatalf("P8: %s\nand in another order\n%s\ntell unlike things", s.text(), text)
			}
		}
	})
}

// TestFactMore: in a program without ! a fact more takes nothing away, and nothing comes later for it.
func TestFactMore(t *testing.T) {
	dice := rand.New(rand.NewSource(82))
	plain := func(s *said) bool { return !strings.Contains(s.text(), "!") }
	added := 0
	programs(t, dice, 150, plain, func(s *said, e *thresh.Engine) {
		for range 8 {
			before := s.ranks()
			rel, tuple := anyTuple(dice, s)
			if e.Add(rel, tuple) == api.OK {
				added++
				s.add(rel, tuple)
			}
			for _, r := range s.rels {
				for _, tuple := range s.space(r) {
					old, there := before[r][fmt.Sprint(tuple)]
					if rank, err := e.Rank(r, tuple); there && (err != api.OK || rank > old) {
						t.Fatalf("P8: %s\nRank(%q, %v) = %d, %d, was %d", s.text(), r, tuple, rank, err, old)
					}
				}
			}
		}
	})
	if added < 300 {
		t.Errorf("%d facts were added", added)
	}
}

// TestComeAndGo: facts that come and go again leave all as it was, whatever their order.
func TestComeAndGo(t *testing.T) {
	dice := rand.New(rand.NewSource(83))
	changed := 0
	programs(t, dice, 150, func(*said) bool { return true }, func(s *said, e *thresh.Engine) {
		before := picture(e)
		var back []func() api.Errno
		for range 12 {
			rel, tuple := anyTuple(dice, s)
			if e.Add(rel, tuple) == api.OK {
				back = append(back, func() api.Errno { return e.Remove(rel, tuple) })
			}
		}
		// Facts of the text may go and come again, too.
		for _, c := range s.clauses {
			var tuple []int
			for _, term := range c.head.terms {
				tuple = append(tuple, int(term[0]-'0'))
			}
			if len(c.lits) == 0 && e.Remove(c.head.rel, tuple) == api.OK {
				back = append(back, func() api.Errno { return e.Add(c.head.rel, tuple) })
			}
		}
		if picture(e) != before {
			changed++
		}
		dice.Shuffle(len(back), func(i, j int) { back[i], back[j] = back[j], back[i] })
		for _, undo := range back {
			if err := undo(); err != api.OK {
				t.Fatalf("P8: %s\nthe way back: error %d", s.text(), err)
			}
		}
		if picture(e) != before {
			t.Fatalf("P8: %s\nfacts that came and went change what follows", s.text())
		}
	})
	if changed < 100 {
		t.Errorf("facts that came and went changed only %d programs", changed)
	}
}
