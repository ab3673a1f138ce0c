package cdcl

import (
	"math"
	"reflect"
	"slices"
	"testing"

	"fathom/api"
	"fathom/drat"
	"fathom/lit"
	"fathom/luby"
	"fathom/reduce"
	"fathom/rup"
	"fathom/trace"
)

// What the chapters say, written out once more.
const (
	theSetting = 1 << 20
	theCount   = 4096
	theWide    = 4096
	theClauses = 1 << 18
	theVars    = 1 << 20
)

// numbers is a row of numbers, the same for each seed.
type numbers uint64

// pick is the next one, below n.
func (r *numbers) pick(n int) int {
	*r = *r*6364136223846793005 + 1442695040888963407
	return int(uint64(*r>>33) % uint64(n))
}

// literal is one of a variable up to vars.
func (r *numbers) literal(vars int) int {
	return (1 + r.pick(vars)) * (1 - 2*r.pick(2))
}

// clause is one of so many literals, some of which may be alike, or each other's negation.
func (r *numbers) clause(vars, size int) []int {
	c := make([]int, size)
	for i := range c {
		c[i] = r.literal(vars)
	}
	return c
}

// formula is one of so many clauses, most of them of three literals.
func (r *numbers) formula(vars, clauses int) api.Cnf {
	f := api.Cnf{Vars: vars}
	for range clauses {
		size := 3
		if r.pick(4) == 0 {
			size = 1 + r.pick(5)
		}
		if r.pick(200) == 0 {
			size = 0
		}
		f.Clauses = append(f.Clauses, r.clause(vars, size))
	}
	return f
}

// threes is one of clauses of three literals each.
func (r *numbers) threes(vars, clauses int) api.Cnf {
	f := api.Cnf{Vars: vars}
	for range clauses {
		f.Clauses = append(f.Clauses, r.clause(vars, 3))
	}
	return f
}

// settings is some that may be.
func (r *numbers) settings() api.Settings {
	sizes := []int{1, 1, 2, 3, 5, 8, 20, 100, theSetting}
	return api.Settings{Budget: -1 - r.pick(3), Unit: sizes[r.pick(len(sizes))], Learnt: sizes[r.pick(len(sizes))]}
}

// cnf is a formula.
func cnf(vars int, clauses ...[]int) api.Cnf {
	return api.Cnf{Vars: vars, Clauses: clauses}
}

// row is the numbers from first on.
func row(first, n int) []int {
	list := make([]int, n)
	for i := range list {
		list[i] = first + i
	}
	return list
}

// copyOf is a formula in memory of its own.
func copyOf(f api.Cnf) api.Cnf {
	g := api.Cnf{Vars: f.Vars, Clauses: slices.Clone(f.Clauses)}
	for i, c := range g.Clauses {
		g.Clauses[i] = slices.Clone(c)
	}
	return g
}

// plainHolds tells whether a formula holds by a model.
func plainHolds(f api.Cnf, m []int) bool {
	for _, c := range f.Clauses {
		isTrue := func(l int) bool { return m[max(l, -l)-1]*l > 0 }
		if !slices.ContainsFunc(c, isTrue) {
			return false
		}
	}
	return true
}

// plainCount is how many models there are: all are tried.
func plainCount(f api.Cnf) int {
	models := 0
	m := make([]int, f.Vars)
	for k := range 1 << f.Vars {
		for i := range m {
			m[i] = 1 - 2*(k>>i&1)
		}
		if plainHolds(f, m) {
			models++
		}
	}
	return models
}

// few is up to how many variables all models are tried.
const few = 12

// hold fails unless what Solve tells is so, the same each time; it tells it.
func hold(t *testing.T, f api.Cnf, s api.Settings) api.Solved {
	t.Helper()
	before := copyOf(f)
	x, e := Solve(f, s)
	again, e2 := Solve(f, s)
	if e != api.OK || e2 != api.OK {
		t.Fatalf("of %v, %v: errors %d, %d", f, s, e, e2)
	}
	if !reflect.DeepEqual(x, again) {
		t.Fatalf("of %v, %v: once %v, once %v", f, s, x, again)
	}
	if !reflect.DeepEqual(f, before) {
		t.Fatalf("%v was turned", before)
	}
	isTold(t, f, x)
	if min(x.Conflicts, x.Decisions, x.Restarts, x.Dropped) < 0 {
		t.Fatalf("of %v: %+v", f, x)
	}
	if f.Vars <= few && (plainCount(f) > 0) != (x.Verdict == api.Sat) {
		t.Fatalf("of %v, %v: verdict %d", f, s, x.Verdict)
	}
	return x
}

// isTold fails unless a verdict has what tells that it is so.
func isTold(t *testing.T, f api.Cnf, x api.Solved) {
	t.Helper()
	switch x.Verdict {
	case api.Sat:
		isModel := len(x.Model) == f.Vars && !slices.ContainsFunc(x.Model, func(n int) bool { return n != 1 && n != -1 })
		if !isModel || !plainHolds(f, x.Model) || !lit.Holds(f, x.Model) || len(x.Proof) != 0 {
			t.Fatalf("of %v: Sat by %v, with the proof %v", f, x.Model, x.Proof)
		}
	case api.Unsat:
		if at, e := rup.Proves(f, x.Proof); e != api.OK || at != len(x.Proof)-1 || trace.Check(x.Proof) != api.OK {
			t.Fatalf("of %v: the proof %v: at %d, error %d", f, x.Proof, at, e)
		}
		if !drat.Plain(f, x.Proof) || len(x.Model) != 0 {
			t.Fatalf("of %v: the proof %v is no plain one, or there is a model: %v", f, x.Proof, x.Model)
		}
	default:
		t.Fatalf("of %v: verdict %d", f, x.Verdict)
	}
}

// isInStep fails unless how often this and that was done fits, of a search that nothing had no room for.
func isInStep(t *testing.T, f api.Cnf, s api.Settings, x api.Solved) {
	t.Helper()
	anew := 0
	for sum := 0; sum*s.Unit <= x.Conflicts; anew++ {
		sum, _ = luby.Sum(anew + 1)
	}
	if x.Restarts != anew-1 {
		t.Fatalf("of %v, %v: %d new beginnings, not %d, by %d conflicts", f, s, x.Restarts, anew-1, x.Conflicts)
	}
	if x.Conflicts > x.Decisions {
		t.Fatalf("of %v, %v: %d conflicts by %d decisions", f, s, x.Conflicts, x.Decisions)
	}
	if x.Verdict == api.Sat {
		return
	}
	// Each conflict taught a clause; the last step has no literals.
	if adds, dels := trace.Count(x.Proof); adds != x.Conflicts+1 || dels != x.Dropped {
		t.Fatalf("of %v, %v: %d steps that follow, %d that go: %+v", f, s, adds, dels, x)
	}
	if rup.Broken(f) != (x.Conflicts == 0) || rup.Broken(f) != (x.Decisions == 0) {
		t.Fatalf("of %v, %v: %+v", f, s, x)
	}
	isByQuota(t, s, x.Proof)
}

// isByQuota fails unless learned clauses go when there are as many as the quota says, and about half of them at most.
func isByQuota(t *testing.T, s api.Settings, proof []api.Step) {
	t.Helper()
	held, went, times := 0, 0, 0
	for i, step := range proof {
		if !step.Del {
			held++
			continue
		}
		if !proof[i-1].Del {
			went = 0
			if !reduce.Due(held, s.Learnt, min(times, 100)) {
				t.Fatalf("by %v, at step %d: of %d some go, though they went %d times", s, i, held, times)
			}
			times++
		}
		held--
		went++
		if went > held+1 {
			t.Fatalf("by %v, at step %d: %d are left, %d went", s, i, held, went)
		}
	}
}

// pigeons is n pigeons in one hole less.
func pigeons(n int) api.Cnf {
	f := api.Cnf{Vars: n * (n - 1)}
	at := func(pigeon, hole int) int { return pigeon*(n-1) + hole + 1 }
	for i := range n {
		f.Clauses = append(f.Clauses, row(at(i, 0), n-1))
		for j := range i {
			for hole := range n - 1 {
				f.Clauses = append(f.Clauses, []int{-at(i, hole), -at(j, hole)})
			}
		}
	}
	return f
}

// noLeast is an order of n things of which none is the least.
func noLeast(n int) api.Cnf {
	f := api.Cnf{Vars: n * n}
	at := func(i, j int) int { return i*n + j + 1 }
	for i := range n {
		var lesser []int
		for j := range n {
			if i == j {
				continue
			}
			lesser = append(lesser, at(j, i))
			f.Clauses = append(f.Clauses, []int{-at(i, j), -at(j, i)})
			for k := range n {
				if k != i && k != j {
					f.Clauses = append(f.Clauses, []int{-at(i, j), -at(j, k), at(i, k)})
				}
			}
		}
		f.Clauses = append(f.Clauses, lesser)
	}
	return f
}

// ring is n variables round, each unlike the next one, but so many of them like it.
func ring(n, alike int) api.Cnf {
	f := api.Cnf{Vars: n}
	for i := range n {
		a, b := i+1, (i+1)%n+1
		if i < alike {
			b = -b
		}
		f.Clauses = append(f.Clauses, []int{a, b}, []int{-a, -b})
	}
	return f
}

func TestCheck(t *testing.T) {
	sizes := []int{math.MinInt, -theSetting, -1, 0, 1, 2, 64, theSetting - 1, theSetting, theSetting + 1, math.MaxInt}
	mayBe := func(n int) bool { return n >= 1 && n <= theSetting }
	for _, unit := range sizes {
		for _, learnt := range sizes {
			for _, budget := range sizes {
				s := api.Settings{Budget: budget, Unit: unit, Learnt: learnt}
				want := api.ErrArg
				if mayBe(unit) && mayBe(learnt) {
					want = api.OK
				}
				if e := Check(s); e != want {
					t.Errorf("Check(%v): %d", s, e)
				}
				x, e := Solve(cnf(1, []int{1}), s)
				if e != want || want == api.OK && x.Verdict != api.Sat || want != api.OK && !reflect.DeepEqual(x, api.Solved{}) {
					t.Errorf("Solve by %v: %+v, %d", s, x, e)
				}
			}
		}
	}
	if Check(api.Settings{}) != api.ErrArg {
		t.Error("of none")
	}
}

func TestUsual(t *testing.T) {
	s := Usual()
	if Check(s) != api.OK || s.Budget >= 0 || s != Usual() {
		t.Errorf("%v", s)
	}
}

func TestExample(t *testing.T) {
	f := cnf(2, []int{1, 2}, []int{-1, 2}, []int{1, -2}, []int{-1, -2})
	if x := hold(t, f, Usual()); x.Verdict != api.Unsat || x.Conflicts != 1 {
		t.Errorf("%+v", x)
	}
	for i := range f.Clauses {
		if x := hold(t, cnf(2, slices.Delete(slices.Clone(f.Clauses), i, i+1)...), Usual()); x.Verdict != api.Sat {
			t.Errorf("without clause %d: %+v", i, x)
		}
	}
}

// edges is formulas that the chapter, or a chapter below, has as its edges, and how many models they have.
func edges() []struct {
	f      api.Cnf
	models int
} {
	return []struct {
		f      api.Cnf
		models int
	}{
		{api.Cnf{}, 1},
		{api.Cnf{Clauses: [][]int{}}, 1},
		{cnf(0, []int{}), 0},
		{cnf(0, nil), 0},
		{cnf(0, nil, nil), 0},
		{cnf(1), 2},
		{cnf(5), 32},
		{cnf(3, nil), 0},
		{cnf(3, []int{1, 2}, []int{}, []int{3}), 0},
		{cnf(1, []int{1}), 1},
		{cnf(1, []int{-1}), 1},
		{cnf(1, []int{1}, []int{-1}), 0},
		{cnf(2, []int{-2}, []int{1}, []int{2}), 0},
		{cnf(1, []int{1, 1}), 1},
		{cnf(1, []int{1, 1}, []int{-1, -1, -1}), 0},
		{cnf(2, []int{1, 2, 1, 2}, []int{-1, -1}), 1},
		{cnf(2, []int{1, 2, 2}, []int{-1, 2, -1}, []int{1, -2, -2}, []int{-1, -1, -2}), 0},
		{cnf(1, []int{1, -1}), 2},
		{cnf(2, []int{1, -1, 2}, []int{-2, 1, 2}), 4},
		{cnf(2, []int{1, -1}, []int{2}, []int{-2, 1, -1}, []int{-2, -1}, []int{1}), 0},
		{cnf(2, []int{1, 2}, []int{1, 2}, []int{2, 1}), 3},
		{cnf(2, []int{-1}, []int{-1}, []int{1, 2}, []int{1, 2}), 1},
		{cnf(4, []int{2, 3}), 12},
		{cnf(6, []int{4}, []int{-4}), 0},
		{cnf(6, []int{4}, []int{-5, -4}, []int{5, 6}), 8},
		{cnf(3, []int{1}, []int{-1, 2}, []int{-2, 3}), 1},
		{cnf(3, []int{1}, []int{-1, 2}, []int{-2, 3}, []int{-3, -1}), 0},
		{pigeons(2), 0},
		{pigeons(3), 0},
		{ring(4, 0), 2},
		{ring(5, 0), 0},
		{ring(5, 1), 2},
		{ring(9, 4), 0},
	}
}

func TestEdges(t *testing.T) {
	for _, c := range edges() {
		if models := plainCount(c.f); models != c.models {
			t.Fatalf("%v has %d models", c.f, models)
		}
		for _, s := range []api.Settings{Usual(), {Budget: -1, Unit: 1, Learnt: 1}, {Budget: -9, Unit: theSetting, Learnt: theSetting}, {Budget: math.MinInt, Unit: 1, Learnt: theSetting}} {
			isInStep(t, c.f, s, hold(t, c.f, s))
		}
		for most := range c.models + 3 {
			if n, e := Count(c.f, most); n != min(most, c.models) || e != api.OK {
				t.Errorf("Count(%v, %d): %d, %d", c.f, most, n, e)
			}
		}
		if n, e := Count(c.f, theCount); n != c.models || e != api.OK {
			t.Errorf("Count(%v): %d, %d", c.f, n, e)
		}
	}
}

func TestToldWithoutAConflict(t *testing.T) {
	for _, f := range []api.Cnf{cnf(3, []int{1, 2}, []int{2, 3}), cnf(0), cnf(4), cnf(2, []int{1}, []int{-1, 2})} {
		for _, budget := range []int{0, 1, -1} {
			x, e := Solve(f, api.Settings{Budget: budget, Unit: 1, Learnt: 1})
			isTold(t, f, x)
			if e != api.OK || x.Verdict != api.Sat || x.Conflicts != 0 {
				t.Errorf("of %v: %+v, %d", f, x, e)
			}
		}
	}
}

func TestToldAtLevelZero(t *testing.T) {
	for _, f := range []api.Cnf{
		cnf(0, nil),
		cnf(1, []int{1}, []int{-1}),
		cnf(4, []int{1, 2, 3, 4}, []int{-1}, []int{-2}, []int{-4}, []int{-3}),
		cnf(3, []int{-2, 3}, []int{-3, -1}, []int{1}, []int{-1, 2}),
	} {
		for _, budget := range []int{0, 1, -1} {
			x, e := Solve(f, api.Settings{Budget: budget, Unit: 1, Learnt: 1})
			isTold(t, f, x)
			want := api.Solved{Verdict: api.Unsat, Proof: x.Proof}
			if e != api.OK || !reflect.DeepEqual(x, want) || len(x.Proof) != 1 {
				t.Errorf("of %v: %+v, %d", f, x, e)
			}
		}
	}
	f := cnf(3, []int{3}, []int{-3, -1}, []int{1, 2})
	if x := hold(t, f, Usual()); x.Decisions != 0 || !slices.Equal(x.Model, []int{-1, 1, 1}) {
		t.Errorf("%+v", x)
	}
}

// noFormulas is what is no formula, each way that layer 1 names.
func noFormulas() []api.Cnf {
	return []api.Cnf{
		{Vars: -1},
		{Vars: math.MinInt},
		{Vars: theVars + 1},
		{Vars: math.MaxInt},
		{Vars: -1, Clauses: [][]int{{}}},
		cnf(0, []int{1}),
		cnf(2, []int{1, 0}),
		cnf(2, []int{0}),
		cnf(2, []int{1}, []int{3}),
		cnf(2, []int{-3, 1}),
		cnf(theVars, []int{theVars + 1}),
		cnf(theVars, []int{-theVars - 1}),
		cnf(2, []int{math.MinInt}),
		cnf(2, []int{1}, []int{2, math.MaxInt}),
		cnf(theVars, row(1, theWide+1)),
		cnf(1, slices.Repeat([]int{1}, theWide+1)),
		cnf(1, slices.Repeat([][]int{{1}}, theClauses+1)...),
	}
}

func TestNoFormula(t *testing.T) {
	for i, f := range noFormulas() {
		for _, s := range []api.Settings{Usual(), {Budget: 0, Unit: 1, Learnt: 1}, {}, {Budget: 1, Unit: -1, Learnt: theSetting + 1}} {
			if x, e := Solve(f, s); e != api.ErrArg || !reflect.DeepEqual(x, api.Solved{}) {
				t.Errorf("list %d, %v: %+v, %d", i, s, x, e)
			}
		}
		for _, most := range []int{math.MinInt, -1, 0, 1, theCount, theCount + 1, math.MaxInt} {
			if n, e := Count(f, most); n != 0 || e != api.ErrArg {
				t.Errorf("Count of list %d, %d: %d, %d", i, most, n, e)
			}
		}
	}
}

// holdBudgets fails unless budgets below what a search needs are used up, and others are not to be seen.
func holdBudgets(t *testing.T, f api.Cnf, s api.Settings) {
	t.Helper()
	s.Budget = -1
	x := hold(t, f, s)
	for _, budget := range []int{0, 1, 2, 3, x.Conflicts / 2, x.Conflicts - 1, x.Conflicts, x.Conflicts + 1, 2*x.Conflicts + 9, math.MaxInt, -2, math.MinInt} {
		s.Budget = budget
		y, e := Solve(f, s)
		if budget < 0 || budget >= x.Conflicts {
			if e != api.OK || !reflect.DeepEqual(x, y) {
				t.Fatalf("of %v, %v: %+v, %d", f, s, y, e)
			}
			continue
		}
		want := api.Solved{Conflicts: budget, Decisions: y.Decisions, Restarts: y.Restarts, Dropped: y.Dropped}
		if e != api.ErrOut || !reflect.DeepEqual(y, want) || y.Verdict != api.Open {
			t.Fatalf("of %v, %v: %+v, %d", f, s, y, e)
		}
		// The conflict that is one too many came behind a decision.
		if y.Decisions <= budget || y.Decisions > x.Decisions || y.Restarts < 0 || y.Restarts > x.Restarts || y.Dropped < 0 || y.Dropped > x.Dropped {
			t.Fatalf("of %v, %v: %+v, and whole %+v", f, s, y, x)
		}
	}
}

func TestBudgets(t *testing.T) {
	for _, c := range edges() {
		holdBudgets(t, c.f, Usual())
	}
	for n := range 5 {
		holdBudgets(t, pigeons(n+2), Usual())
		holdBudgets(t, pigeons(n+2), api.Settings{Unit: 1, Learnt: 1})
	}
	for seed := range 200 {
		r := numbers(seed)
		f := r.formula(4+r.pick(8), 60)
		if seed%4 == 0 {
			f = r.threes(30+r.pick(20), 180)
		}
		holdBudgets(t, f, r.settings())
	}
}

// someClauses is clauses of two variables, each kind of them.
func someClauses() [][]int {
	return [][]int{{}, {1}, {-1}, {2}, {-2}, {1, 2}, {1, -2}, {-2, -1}, {2, -1}, {1, -1}, {2, 1, 2}}
}

func TestAllFormulasOfTwoVariables(t *testing.T) {
	some := someClauses()
	for set := range 1 << len(some) {
		f := api.Cnf{Vars: 2}
		for i, c := range some {
			if set>>i&1 == 1 {
				f.Clauses = append(f.Clauses, c)
			}
		}
		s := api.Settings{Budget: -1, Unit: 1 + set%2, Learnt: 1 + set%3}
		isInStep(t, f, s, hold(t, f, s))
		if n, e := Count(f, 5); n != plainCount(f) || e != api.OK {
			t.Fatalf("Count(%v): %d, %d", f, n, e)
		}
	}
}

// threeOf is all clauses of three variables, each of which stands in it once, or not at all.
func threeOf() [][]int {
	var list [][]int
	for k := range 27 {
		var c []int
		for v, rest := 1, k; v <= 3; v, rest = v+1, rest/3 {
			if rest%3 > 0 {
				c = append(c, v*(3-2*(rest%3)))
			}
		}
		list = append(list, c)
	}
	return list
}

func TestAllShortFormulasOfThreeVariables(t *testing.T) {
	some := threeOf()
	s := api.Settings{Budget: -1, Unit: 1, Learnt: 1}
	for a := range some {
		for b := range a {
			for c := range b {
				for d := range c {
					f := cnf(3, some[a], some[b], some[c], some[d])
					isInStep(t, f, s, hold(t, f, s))
				}
			}
		}
	}
}

func TestManyFormulas(t *testing.T) {
	for seed := range 4000 {
		r := numbers(seed + 1000)
		vars := 1 + r.pick(few)
		f := r.formula(vars, r.pick(6*vars+2))
		if seed%3 == 0 {
			f = r.threes(vars, r.pick(8*vars))
		}
		s := r.settings()
		isInStep(t, f, s, hold(t, f, s))
	}
}

func TestGreaterFormulas(t *testing.T) {
	var told [3]int
	for seed := range 60 {
		r := numbers(seed)
		vars := 40 + r.pick(60)
		f := r.threes(vars, vars*17/4)
		s := r.settings()
		x := hold(t, f, s)
		isInStep(t, f, s, x)
		told[x.Verdict]++
		// However it is searched, it is told the same.
		if y := hold(t, f, Usual()); y.Verdict != x.Verdict {
			t.Errorf("of %v: %d, and %d", f, x.Verdict, y.Verdict)
		}
	}
	if told[api.Sat] < 10 || told[api.Unsat] < 10 {
		t.Errorf("told: %v", told)
	}
}

func TestFormulasThatAreToldByThought(t *testing.T) {
	for n := 2; n <= 7; n++ {
		for _, s := range []api.Settings{Usual(), {Budget: -1, Unit: 1, Learnt: 1}, {Budget: -1, Unit: 7, Learnt: 30}} {
			for _, f := range []api.Cnf{pigeons(n), noLeast(n), ring(2*n+1, 2)} {
				x := hold(t, f, s)
				isInStep(t, f, s, x)
				if x.Verdict != api.Unsat {
					t.Errorf("%d: %+v", n, x)
				}
			}
			if x := hold(t, ring(2*n, 4), s); x.Verdict != api.Sat {
				t.Errorf("%d: %+v", n, x)
			}
		}
	}
}

func TestBeginsAnewAndLetsGo(t *testing.T) {
	f := pigeons(6)
	small := hold(t, f, api.Settings{Budget: -1, Unit: 1, Learnt: 1})
	if small.Restarts < 10 || small.Dropped < 10 {
		t.Errorf("%d new beginnings, %d went", small.Restarts, small.Dropped)
	}
	great := hold(t, f, api.Settings{Budget: -1, Unit: theSetting, Learnt: theSetting})
	if great.Restarts != 0 || great.Dropped != 0 || great.Conflicts < 10 {
		t.Errorf("%d new beginnings, %d went, %d conflicts", great.Restarts, great.Dropped, great.Conflicts)
	}
	if x := hold(t, f, api.Settings{Budget: -1, Unit: 1, Learnt: theSetting}); x.Restarts == 0 || x.Dropped != 0 {
		t.Errorf("%d new beginnings, %d went", x.Restarts, x.Dropped)
	}
	if x := hold(t, f, api.Settings{Budget: -1, Unit: theSetting, Learnt: 1}); x.Restarts != 0 || x.Dropped == 0 {
		t.Errorf("%d new beginnings, %d went", x.Restarts, x.Dropped)
	}
}

func TestCountAgainstAllModels(t *testing.T) {
	for seed := range 2500 {
		r := numbers(seed + 5000)
		vars := 1 + r.pick(few)
		f := r.formula(vars, r.pick(3*vars))
		before := copyOf(f)
		models := plainCount(f)
		for _, most := range []int{0, 1, models - 1, models, models + 1, r.pick(models + 2), theCount} {
			if most < 0 || most > theCount {
				continue
			}
			if n, e := Count(f, most); n != min(models, most) || e != api.OK {
				t.Fatalf("Count(%v, %d): %d, %d, not %d", f, most, n, e, models)
			}
		}
		if !reflect.DeepEqual(f, before) {
			t.Fatalf("%v was turned", before)
		}
	}
}

func TestCountOfWhatIsTooMuch(t *testing.T) {
	unit := [][]int{{1}}
	for _, c := range []struct {
		f    api.Cnf
		most int
		n    int
		e    api.Errno
	}{
		{cnf(2), -1, 0, api.ErrArg},
		{cnf(2), math.MinInt, 0, api.ErrArg},
		{cnf(2), theCount + 1, 0, api.ErrArg},
		{cnf(2), math.MaxInt, 0, api.ErrArg},
		{cnf(2), theCount, 4, api.OK},
		{cnf(theWide), 0, 0, api.OK},
		{cnf(theWide), 9, 9, api.OK},
		{cnf(theWide), theCount, theCount, api.OK},
		{cnf(theWide, row(1, theWide)), 99, 99, api.OK},
		{cnf(theWide, row(-theWide, theWide), []int{1}, []int{-1}), 99, 0, api.OK},
		{cnf(theWide + 1), 0, 0, api.ErrOut},
		{cnf(theWide + 1), 1, 0, api.ErrOut},
		{cnf(theWide+1, nil), theCount, 0, api.ErrOut},
		{cnf(theWide + 1), -1, 0, api.ErrArg},
		{cnf(theWide + 1), theCount + 1, 0, api.ErrArg},
		{cnf(theVars), 2, 0, api.ErrOut},
		{cnf(1, slices.Repeat(unit, theClauses)...), 0, 0, api.OK},
		{cnf(1, slices.Repeat(unit, theClauses)...), 1, 0, api.ErrOut},
		{cnf(1, slices.Repeat(unit, theClauses)...), theCount + 1, 0, api.ErrArg},
		{cnf(1, slices.Repeat(unit, theClauses-1)...), 1, 1, api.OK},
		{cnf(1, slices.Repeat(unit, theClauses-1)...), 2, 0, api.ErrOut},
		{cnf(3, slices.Repeat(unit, theClauses-theCount)...), theCount, 4, api.OK},
		{cnf(3, slices.Repeat(unit, theClauses-theCount+1)...), theCount, 0, api.ErrOut},
		{cnf(3, slices.Repeat(unit, theClauses-theCount+1)...), theCount - 1, 4, api.OK},
	} {
		if n, e := Count(c.f, c.most); n != c.n || e != c.e {
			t.Errorf("Count of %d variables, %d clauses, %d: %d, %d", c.f.Vars, len(c.f.Clauses), c.most, n, e)
		}
	}
}

func TestCountOfWhatIsHard(t *testing.T) {
	for n := 2; n <= 6; n++ {
		f := pigeons(n)
		if models, e := Count(f, theCount); models != 0 || e != api.OK {
			t.Errorf("%d pigeons: %d, %d", n, models, e)
		}
		// With a hole each they have as many ways as there are orders; a variable more lets them be twice as many.
		ways := 2
		for k := range n - 1 {
			ways *= k + 1
		}
		f = api.Cnf{Vars: f.Vars + 1}
		for _, c := range pigeons(n).Clauses {
			// The last pigeon is left out.
			if slices.Max(c) <= (n-1)*(n-1) && slices.Min(c) >= -(n-1)*(n-1) {
				f.Clauses = append(f.Clauses, c)
			}
		}
		for v := (n-1)*(n-1) + 1; v < f.Vars; v++ {
			f.Clauses = append(f.Clauses, []int{-v})
		}
		for _, most := range []int{ways - 1, ways, ways + 1, theCount} {
			if models, e := Count(f, most); models != min(ways, most) || e != api.OK {
				t.Errorf("%d pigeons, up to %d: %d, %d", n-1, most, models, e)
			}
		}
	}
}

func TestCountOfAsManyClausesAsThereMayBe(t *testing.T) {
	counted := 0
	for seed := range 40 {
		r := numbers(seed)
		f := r.threes(few, 4*few)
		models := plainCount(f)
		if models < 5 || models > 30 || counted == 4 {
			continue
		}
		// All room that is left is that of models: what is learned must not take it.
		for most := models - 1; most <= models+1; most++ {
			full := fill(f, theClauses-most, func(i int) []int { return f.Clauses[i%len(f.Clauses)] })
			if n, e := Count(full, most); n != min(models, most) || e != api.OK {
				t.Errorf("of %v, up to %d: %d, %d, not %d", f, most, n, e, models)
			}
		}
		counted++
	}
	if counted < 4 {
		t.Errorf("%d formulas", counted)
	}
}

func TestAnswersAreNewMemory(t *testing.T) {
	spoil := func(l []int) {
		l = l[:cap(l)]
		for i := range l {
			l[i] = 99
		}
	}
	f := cnf(3, []int{1, 2, 3}, []int{-2, 1})
	before := copyOf(f)
	x, _ := Solve(f, Usual())
	spoil(x.Model)
	if y, _ := Solve(f, Usual()); !reflect.DeepEqual(f, before) || slices.Contains(y.Model, 99) {
		t.Error("of a model")
	}
	f = pigeons(6)
	before = copyOf(f)
	s := api.Settings{Budget: -1, Unit: 1, Learnt: 1}
	x, _ = Solve(f, s)
	y, _ := Solve(f, s)
	for i, step := range x.Proof {
		// No list shares memory with one that was not spoiled yet.
		if !slices.Equal(step.Lits, y.Proof[i].Lits) {
			t.Fatalf("step %d: %v, not %v", i, step.Lits, y.Proof[i].Lits)
		}
		spoil(step.Lits)
	}
	if z, _ := Solve(f, s); !reflect.DeepEqual(f, before) || !reflect.DeepEqual(y, z) {
		t.Error("of a proof")
	}
}
