package thresh_test

import (
	"fmt"
	"math/rand"
	"slices"
	"testing"

	"thresh/api"
	"thresh/thresh"
)

// calls is what a kernel and its model have in common.
type calls interface {
	Var(i int) (int, api.Errno)
	Not(f int) (int, api.Errno)
	Apply(op int, f int, g int) (int, api.Errno)
	Ite(f int, g int, h int) (int, api.Errno)
	Exists(f int, vars int) (int, api.Errno)
	Replace(f int, to []int) (int, api.Errno)
	Eval(f int, assignment int) (bool, api.Errno)
	Count(f int) (int, api.Errno)
	Support(f int) (int, api.Errno)
	Size(f int) (int, api.Errno)
	Total() int
	Order() []int
	Swap(level int) api.Errno
	Sift(i int) api.Errno
	Drop(f int) api.Errno
}

const (
	huge = 1<<63 - 1
	tiny = -1 << 63
)

func begin(t *testing.T, vars int) *thresh.Kernel {
	t.Helper()
	k, e := thresh.New(vars)
	if k == nil || e != api.OK {
		t.Fatalf("New(%d) = %v, %d", vars, k, e)
	}
	return k
}

// get takes a call's answer, which must be without an error.
func get(t *testing.T) func(h int, e api.Errno) int {
	return func(h int, e api.Errno) int {
		t.Helper()
		if e != api.OK {
			t.Fatalf("an answer with the error %d", e)
		}
		return h
	}
}

// same holds what two answered against each other.
func same(t *testing.T, what string, got, want any) {
	t.Helper()
	if g, w := fmt.Sprint(got), fmt.Sprint(want); g != w {
		t.Fatalf("%s = %s, want %s", what, g, w)
	}
}

func pair(a any, e api.Errno) string { return fmt.Sprint(a, " error ", int(e)) }

// state tells all that can be asked of a kernel, of handles below a number.
func state(k calls, vars, below int) string {
	s := fmt.Sprint(k.Order(), k.Total())
	for h := range below {
		n, e := k.Count(h)
		if e != api.OK {
			s += fmt.Sprint("; ", h, " error ", int(e))
			continue
		}
		size, _ := k.Size(h)
		support, _ := k.Support(h)
		s += fmt.Sprint("; ", h, " count ", n, " size ", size, " support ", support, " ")
		for a := range 1 << vars {
			is, _ := k.Eval(h, a)
			s += map[bool]string{false: "0", true: "1"}[is]
		}
	}
	return s
}

func TestNew(t *testing.T) {
	for vars := 1; vars <= api.MaxVars; vars++ {
		k := begin(t, vars)
		want := []int{0, 1, 2, 3, 4, 5, 6, 7}[:vars]
		same(t, "P3: Order of a new kernel", k.Order(), want)
		same(t, "P4: Total of a new kernel", k.Total(), 0)
		for i := range vars {
			same(t, "P3: Var", pair(k.Var(i)), pair(i+2, api.OK))
		}
		same(t, "P3: Var", pair(k.Var(vars)), pair(0, api.ErrArg))
	}
	for _, vars := range []int{0, 9, -1, 64, huge, tiny} {
		if k, e := thresh.New(vars); k != nil || e != api.ErrArg {
			t.Errorf("P3: New(%d) = %v, %d, want nil, ErrArg", vars, k, e)
		}
	}
}

func TestConstants(t *testing.T) {
	for _, vars := range []int{1, 8} {
		k := begin(t, vars)
		same(t, "P3: Not(0)", pair(k.Not(0)), pair(1, api.OK))
		same(t, "P3: Not(1)", pair(k.Not(1)), pair(0, api.OK))
		tables := [4][4]int{{0, 0, 0, 1}, {0, 1, 1, 1}, {0, 1, 1, 0}, {0, 0, 1, 0}}
		for op, table := range tables {
			for i, want := range table {
				same(t, fmt.Sprint("P3: Apply ", op, i), pair(k.Apply(op, i>>1, i&1)), pair(want, api.OK))
			}
		}
		for i := range 8 {
			f, g, h := i>>2, i>>1&1, i&1
			want := []int{h, g}[f]
			same(t, fmt.Sprint("P3: Ite ", i), pair(k.Ite(f, g, h)), pair(want, api.OK))
		}
		for h := range 2 {
			same(t, "P3: Exists of a constant", pair(k.Exists(h, 1<<vars-1)), pair(h, api.OK))
			same(t, "P3: Replace in a constant", pair(k.Replace(h, k.Order())), pair(h, api.OK))
			same(t, "P4: Count of a constant", pair(k.Count(h)), pair(h<<vars, api.OK))
			same(t, "P4: Support of a constant", pair(k.Support(h)), pair(0, api.OK))
			same(t, "P4: Size of a constant", pair(k.Size(h)), pair(0, api.OK))
			same(t, "P4: Eval of a constant", pair(k.Eval(h, 1<<vars-1)), pair(h == 1, api.OK))
			same(t, "P4: Drop of a constant", k.Drop(h), api.ErrHandle)
		}
		same(t, "P4: Total", k.Total(), 0)
		same(t, "P3: the first handle", pair(k.Var(vars-1)), pair(2, api.OK))
	}
}

func TestOneVariable(t *testing.T) {
	k := begin(t, 1)
	x := get(t)(k.Var(0))
	n := get(t)(k.Not(x))
	same(t, "P3: handles", fmt.Sprint(x, n), "2 3")
	same(t, "P3: Apply", pair(k.Apply(api.Or, x, n)), pair(1, api.OK))
	same(t, "P3: Exists", pair(k.Exists(n, 1)), pair(1, api.OK))
	same(t, "P3: Exists", pair(k.Exists(n, 2)), pair(0, api.ErrArg))
	same(t, "P3: Replace", pair(k.Replace(n, []int{0})), pair(n, api.OK))
	same(t, "P3: Replace", pair(k.Replace(n, []int{1})), pair(0, api.ErrArg))
	same(t, "P4: Eval", pair(k.Eval(n, 0)), pair(true, api.OK))
	same(t, "P4: Eval", pair(k.Eval(n, 2)), pair(false, api.ErrArg))
	same(t, "P4: Count", pair(k.Count(n)), pair(1, api.OK))
	same(t, "P4: Total", k.Total(), 2)
	same(t, "P4: Swap", k.Swap(0), api.ErrArg)
	same(t, "P4: Swap", k.Swap(-1), api.ErrArg)
	same(t, "P4: Sift", k.Sift(0), api.OK)
	same(t, "P4: Sift", k.Sift(1), api.ErrArg)
	same(t, "P4: Order", k.Order(), []int{0})
}

func TestReplaceWay(t *testing.T) {
	k := begin(t, 3)
	x0, x1 := get(t)(k.Var(0)), get(t)(k.Var(1))
	x2 := get(t)(k.Var(2))
	d := get(t)(k.Apply(api.Diff, x0, x1))
	// x0 by x1, x1 by x2: the way back would be another function
	want := get(t)(k.Apply(api.Diff, x1, x2))
	same(t, "P3: Replace", pair(k.Replace(d, []int{1, 2, 0})), pair(want, api.OK))
}

func TestDocumentOrders(t *testing.T) {
	k := begin(t, 4)
	var x [4]int
	for i := range x {
		x[i] = get(t)(k.Var(i))
	}
	a := get(t)(k.Apply(api.And, x[0], x[1]))
	b := get(t)(k.Apply(api.And, x[2], x[3]))
	f := get(t)(k.Apply(api.Or, a, b))
	same(t, "P4: Size", pair(k.Size(f)), pair(4, api.OK))
	same(t, "P4: Swap", k.Swap(1), api.OK)
	same(t, "P4: Order", k.Order(), []int{0, 2, 1, 3})
	same(t, "P4: Size", pair(k.Size(f)), pair(6, api.OK))
	same(t, "P3: the same function", pair(k.Apply(api.Or, b, a)), pair(f, api.OK))
}

func TestSwapEnds(t *testing.T) {
	for vars := 2; vars <= api.MaxVars; vars++ {
		k := begin(t, vars)
		want := k.Order()
		same(t, "P4: Swap of the first place", k.Swap(0), api.OK)
		want[0], want[1] = want[1], want[0]
		same(t, "P4: Order", k.Order(), want)
		same(t, "P4: Swap of the last place", k.Swap(vars-2), api.OK)
		want[vars-2], want[vars-1] = want[vars-1], want[vars-2]
		same(t, "P4: Order", k.Order(), want)
		for _, level := range []int{-1, vars - 1, vars, huge, tiny} {
			same(t, fmt.Sprint("P4: Swap ", level), k.Swap(level), api.ErrArg)
		}
		same(t, "P4: Order behind wrong calls", k.Order(), want)
	}
}

// TestSiftEquals: where several places are equally good, the first is taken, even if the variable is at a good one already.
func TestSiftEquals(t *testing.T) {
	k := begin(t, 4)
	same(t, "P4: Sift without functions", k.Sift(2), api.OK)
	same(t, "P4: Order", k.Order(), []int{2, 0, 1, 3})
	same(t, "P4: Sift at the first place", k.Sift(2), api.OK)
	same(t, "P4: Order", k.Order(), []int{2, 0, 1, 3})

	k = begin(t, 4)
	f := 1
	for i := range 4 {
		x := get(t)(k.Var(i))
		old := f
		f = get(t)(k.Apply(api.Xor, f, x))
		same(t, "P4: Drop", k.Drop(x), api.OK)
		if old > 1 {
			same(t, "P4: Drop", k.Drop(old), api.OK)
		}
	}
	// The parity has the same size by all orders.
	same(t, "P4: Total", k.Total(), 7)
	same(t, "P4: Sift of a parity", k.Sift(3), api.OK)
	same(t, "P4: Order", k.Order(), []int{3, 0, 1, 2})
	same(t, "P4: Total", k.Total(), 7)
}

// TestSiftMiddle: the good places are not the first one; of two of them the first is taken.
func TestSiftMiddle(t *testing.T) {
	k, m := begin(t, 5), newModel(5)
	for _, c := range []calls{k, m} {
		var x [5]int
		for i := range x {
			x[i] = get(t)(c.Var(i))
		}
		a := get(t)(c.Apply(api.And, x[0], x[4]))
		b := get(t)(c.Apply(api.And, x[1], x[2]))
		f := get(t)(c.Apply(api.Or, a, b))
		g := get(t)(c.Ite(x[3], f, b))
		for h := 2; h < g; h++ {
			c.Drop(h)
		}
	}
	seen := map[string]bool{}
	for i := range 5 {
		before := m.Total()
		same(t, "P4: Sift", k.Sift(i), m.Sift(i))
		same(t, "P4: Order", k.Order(), m.Order())
		same(t, "P4: Total", k.Total(), m.Total())
		if m.Total() > before {
			t.Errorf("P8: Sift(%d) makes Total greater", i)
		}
		seen[fmt.Sprint(m.Order())] = true
	}
	if len(seen) < 3 {
		t.Errorf("this test moves too little: %v", seen)
	}
}

// fill makes a hundred handles in a kernel of 8 variables: 2 to 9 are the variables, 10 to 17 their contraries, then there is what three operations make of each two variables.
func fill(t *testing.T, k *thresh.Kernel) {
	t.Helper()
	next := 2
	take := func(h int, e api.Errno) {
		t.Helper()
		same(t, "P3: a new handle", pair(h, e), pair(next, api.OK))
		next++
	}
	for i := range 8 {
		take(k.Var(i))
	}
	for x := 2; x < 10; x++ {
		take(k.Not(x))
	}
	for y := 3; y < 10; y++ {
		for x := 2; x < y; x++ {
			take(k.Apply(api.And, x, y))
			take(k.Apply(api.Or, x, y))
			take(k.Apply(api.Diff, x, y))
		}
	}
	same(t, "P3: handles given", next, 2+api.MaxHandles)
}

func TestFull(t *testing.T) {
	k := begin(t, 8)
	fill(t, k)
	before := state(k, 8, 104)
	full := pair(0, api.ErrFull)
	same(t, "P3: Apply when full", pair(k.Apply(api.Xor, 2, 3)), full)
	same(t, "P3: Not when full", pair(k.Not(101)), full)
	same(t, "P3: Ite when full", pair(k.Ite(2, 3, 4)), full)
	same(t, "P3: Replace when full", pair(k.Replace(20, []int{1, 0, 2, 3, 4, 5, 6, 7})), full)
	same(t, "P1: the state behind ErrFull", state(k, 8, 104), before)
	// What has a handle is answered all the same.
	same(t, "P3: Var when full", pair(k.Var(7)), pair(9, api.OK))
	same(t, "P3: And when full", pair(k.Apply(api.And, 3, 2)), pair(18, api.OK))
	same(t, "P3: Diff when full", pair(k.Apply(api.Diff, 18, 2)), pair(0, api.OK))
	same(t, "P3: Exists when full", pair(k.Exists(18, 1)), pair(3, api.OK))
	// Other errors are named ahead of ErrFull.
	same(t, "P3: Var when full", pair(k.Var(8)), pair(0, api.ErrArg))
	same(t, "P3: Not when full", pair(k.Not(102)), pair(0, api.ErrHandle))
	same(t, "P3: Ite when full", pair(k.Ite(2, 3, 102)), pair(0, api.ErrHandle))
	same(t, "P3: Apply when full", pair(k.Apply(4, 102, 2)), pair(0, api.ErrArg))
	// One goes, one comes.
	same(t, "P4: Drop", k.Drop(50), api.OK)
	same(t, "P3: Xor with room", pair(k.Apply(api.Xor, 2, 3)), pair(102, api.OK))
	same(t, "P3: Not when full again", pair(k.Not(102)), full)
	same(t, "P4: Count of a dropped one", pair(k.Count(50)), pair(0, api.ErrHandle))
	same(t, "P4: Drop of a dropped one", k.Drop(50), api.ErrHandle)
	same(t, "P4: Drop of the last one", k.Drop(102), api.OK)
	same(t, "P3: Xor once more", pair(k.Apply(api.Xor, 3, 2)), pair(103, api.OK))
}

// TestNeverAgain: a dropped handle is not given again, not even for the same function, and its function lives on in others.
func TestNeverAgain(t *testing.T) {
	k := begin(t, 3)
	x, y := get(t)(k.Var(0)), get(t)(k.Var(1))
	f := get(t)(k.Apply(api.And, x, y))
	for want := 5; want < 300; want++ {
		same(t, "P4: Drop", k.Drop(x), api.OK)
		same(t, "P4: Drop again", k.Drop(x), api.ErrHandle)
		same(t, "P4: Total", k.Total(), 2)
		same(t, "P3: Not of a dropped one", pair(k.Not(x)), pair(0, api.ErrHandle))
		same(t, "P4: Eval", pair(k.Eval(f, 3)), pair(true, api.OK))
		old := x
		x = get(t)(k.Var(0))
		same(t, "P3: Var", x, want)
		same(t, "P3: the dropped one", pair(k.Size(old)), pair(0, api.ErrHandle))
	}
	same(t, "P3: Apply", pair(k.Apply(api.And, y, x)), pair(f, api.OK))
}

// TestWrong: all wrong calls, the error named first, and nothing changes.
func TestWrong(t *testing.T) {
	k := begin(t, 3)
	x := get(t)(k.Var(0))
	y := get(t)(k.Var(1))
	f := get(t)(k.Apply(api.Diff, x, y))
	k.Drop(y)
	k.Swap(0)
	before := state(k, 3, 9)
	bad := []int{-1, y, 5, 100, huge, tiny}
	for _, h := range bad {
		answers := map[string]string{
			"Not":       pair(k.Not(h)),
			"Apply":     pair(k.Apply(api.And, h, f)),
			"Apply 0":   pair(k.Apply(api.And, 0, h)),
			"Ite f":     pair(k.Ite(h, f, f)),
			"Ite g":     pair(k.Ite(0, h, f)),
			"Ite h":     pair(k.Ite(1, f, h)),
			"Exists":    pair(k.Exists(h, 7)),
			"Replace":   pair(k.Replace(h, []int{0, 1, 2})),
			"Count":     pair(k.Count(h)),
			"Support":   pair(k.Support(h)),
			"Size":      pair(k.Size(h)),
			"Drop":      pair(0, k.Drop(h)),
			"Ite twice": pair(k.Ite(h, h, h)),
		}
		for what, got := range answers {
			same(t, fmt.Sprint("P3, P4: ", what, " of ", h), got, pair(0, api.ErrHandle))
		}
		same(t, "P4: Eval", pair(k.Eval(h, 7)), pair(false, api.ErrHandle))
	}
	for _, h := range append(bad, 0, 1, f) {
		for _, n := range []int{-1, 8, 15, huge, tiny} {
			same(t, fmt.Sprint("P3: Exists ", h, n), pair(k.Exists(h, n)), pair(0, api.ErrArg))
			same(t, fmt.Sprint("P4: Eval ", h, n), pair(k.Eval(h, n)), pair(false, api.ErrArg))
		}
		for _, op := range []int{-1, 4, huge, tiny} {
			same(t, fmt.Sprint("P3: Apply ", op), pair(k.Apply(op, h, f)), pair(0, api.ErrArg))
		}
		lists := [][]int{nil, {}, {0, 1}, {0, 1, 2, 2}, {0, 1, 2, 3}, {0, 0, 1}, {2, 2, 2}, {0, 1, 3}, {-1, 0, 1}, {0, 1, huge}, {tiny, 1, 2}, {0, 1, 66}}
		for _, to := range lists {
			same(t, fmt.Sprint("P3: Replace ", h, to), pair(k.Replace(h, to)), pair(0, api.ErrArg))
		}
	}
	for _, n := range []int{-1, 3, huge, tiny} {
		same(t, fmt.Sprint("P3: Var ", n), pair(k.Var(n)), pair(0, api.ErrArg))
		same(t, fmt.Sprint("P4: Sift ", n), k.Sift(n), api.ErrArg)
		same(t, fmt.Sprint("P4: Swap ", n), k.Swap(n), api.ErrArg)
	}
	same(t, "P4: Swap 2", k.Swap(2), api.ErrArg)
	same(t, "P1: the state behind wrong calls", state(k, 3, 9), before)
	same(t, "P1: the next handle behind wrong calls", pair(k.Var(1)), pair(5, api.OK))
}

// TestLists: what is handed in is not changed and not kept, what comes out is fresh.
func TestLists(t *testing.T) {
	k := begin(t, 3)
	x := get(t)(k.Var(0))
	room := []int{9, 2, 1, 0, 7, 8}
	same(t, "P3: Replace", pair(k.Replace(x, room[1:4])), pair(3, api.OK))
	k.Replace(x, room[2:5])
	same(t, "P2: the list behind Replace", room, []int{9, 2, 1, 0, 7, 8})
	before := state(k, 3, 4)
	clear(room)
	same(t, "P2: the kernel behind a change of the list", state(k, 3, 4), before)
	one, two := k.Order(), k.Order()
	one = one[:cap(one)]
	for i := range one {
		one[i] = 99
	}
	same(t, "P2: a list that came out ahead", two, []int{0, 1, 2})
	same(t, "P2: Order", k.Order(), []int{0, 1, 2})
	k.Swap(0)
	same(t, "P2: a list that came out ahead of Swap", two, []int{0, 1, 2})
	same(t, "P4: Order", k.Order(), []int{1, 0, 2})
}

// TestApart: kernels have nothing to do with one another.
func TestApart(t *testing.T) {
	k, other := begin(t, 3), begin(t, 3)
	f := get(t)(k.Apply(api.And, get(t)(k.Var(0)), get(t)(k.Var(2))))
	same(t, "P2: a handle of another kernel", pair(other.Not(f)), pair(0, api.ErrHandle))
	same(t, "P2: Var of the other kernel", pair(other.Var(1)), pair(2, api.OK))
	same(t, "P2: Swap of the other kernel", other.Swap(1), api.OK)
	same(t, "P2: Order", k.Order(), []int{0, 1, 2})
	same(t, "P2: Total", k.Total(), 3)
	same(t, "P2: Total of the other kernel", other.Total(), 1)
}

// walk asks a kernel and its model the same things, wrong ones too.
type walk struct {
	k    *thresh.Kernel
	m    *model
	dice *rand.Rand
}

func (w *walk) handle() int {
	if w.dice.Intn(30) == 0 {
		return []int{-1, w.m.next, w.m.next + 5, huge, tiny, w.dice.Intn(w.m.next)}[w.dice.Intn(6)]
	}
	var live []int
	for h := range w.m.live {
		live = append(live, h)
	}
	slices.Sort(live)
	return live[w.dice.Intn(len(live))]
}

// below answers a number below n, and now and then a wrong one.
func (w *walk) below(n int) int {
	if w.dice.Intn(30) == 0 {
		return []int{-1, n, n + 3, huge, tiny}[w.dice.Intn(5)]
	}
	return w.dice.Intn(n)
}

func (w *walk) list() []int {
	to := w.dice.Perm(w.m.vars)
	if w.dice.Intn(10) == 0 {
		to[w.dice.Intn(len(to))] = w.below(w.m.vars)
	}
	return to
}

// step makes one call of both, and tells it with both answers.
func (w *walk) step() (what, got, want string) {
	f, g, h := w.handle(), w.handle(), w.handle()
	v := w.m.vars
	call := func(name string, ask func(c calls) string) (string, string, string) {
		return name, ask(w.k), ask(w.m)
	}
	switch w.dice.Intn(16) {
	case 0, 1:
		i := w.below(v)
		return call(fmt.Sprint("P3: Var ", i), func(c calls) string { return pair(c.Var(i)) })
	case 2:
		return call(fmt.Sprint("P3: Not ", f), func(c calls) string { return pair(c.Not(f)) })
	case 3, 4, 5:
		op := w.below(4)
		return call(fmt.Sprint("P3: Apply ", op, f, g), func(c calls) string { return pair(c.Apply(op, f, g)) })
	case 6:
		return call(fmt.Sprint("P3: Ite ", f, g, h), func(c calls) string { return pair(c.Ite(f, g, h)) })
	case 7:
		set := w.below(1 << v)
		return call(fmt.Sprint("P3: Exists ", f, set), func(c calls) string { return pair(c.Exists(f, set)) })
	case 8:
		to := w.list()
		return call(fmt.Sprint("P3: Replace ", f, to), func(c calls) string { return pair(c.Replace(f, to)) })
	case 9:
		a := w.below(1 << v)
		return call(fmt.Sprint("P4: Eval ", f, a), func(c calls) string { return pair(c.Eval(f, a)) })
	case 10:
		return call(fmt.Sprint("P4: Count ", f), func(c calls) string { return pair(c.Count(f)) })
	case 11:
		return call(fmt.Sprint("P4: Support ", f), func(c calls) string { return pair(c.Support(f)) })
	case 12:
		return call(fmt.Sprint("P4: Size ", f), func(c calls) string { return pair(c.Size(f)) })
	case 13:
		level := w.below(v)
		return call(fmt.Sprint("P4: Swap ", level), func(c calls) string { return pair(0, c.Swap(level)) })
	case 14:
		i := w.below(v)
		return call(fmt.Sprint("P4: Sift ", i), func(c calls) string { return pair(0, c.Sift(i)) })
	default:
		return call(fmt.Sprint("P4: Drop ", f), func(c calls) string { return pair(0, c.Drop(f)) })
	}
}

// TestAgainstModel: long rows of calls, right and wrong ones, answered as the document's words do.
func TestAgainstModel(t *testing.T) {
	steps := []int{0, 2000, 2000, 2000, 1000, 300, 120, 60, 40}
	for vars := 1; vars <= api.MaxVars; vars++ {
		for seed := range 3 {
			w := &walk{begin(t, vars), newModel(vars), rand.New(rand.NewSource(int64(seed)))}
			for n := range steps[vars] {
				what, got, want := w.step()
				same(t, fmt.Sprint(vars, " variables, seed ", seed, ", step ", n, ": ", what), got, want)
				same(t, what+": Order", w.k.Order(), w.m.Order())
				if n%10 == 0 {
					same(t, what+": Total", w.k.Total(), w.m.Total())
				}
			}
			below := w.m.next + 2
			same(t, fmt.Sprint(vars, " variables, seed ", seed, ": at the end"), state(w.k, vars, below), state(w.m, vars, below))
		}
	}
}
