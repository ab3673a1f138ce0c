package cdcl

import (
	"reflect"
	"slices"
	"testing"

	"fathom/api"
	"fathom/drat"
	"fathom/reduce"
)

func TestBackwards(t *testing.T) {
	var got []int
	for l := range backwards([]int{3, -1, 2}) {
		got = append(got, l)
	}
	for l := range backwards([]int{7, 8, 9}) {
		if l == 8 {
			break
		}
		got = append(got, l)
	}
	for l := range backwards(nil) {
		got = append(got, l)
	}
	if !slices.Equal(got, []int{2, -1, 3, 9}) {
		t.Errorf("%v", got)
	}
}

func TestMarks(t *testing.T) {
	m := newMarks(3)
	if m.has(0) || !m.add(0) || m.add(0) || !m.has(0) || m.has(3) || !m.add(3) {
		t.Error("add")
	}
	m.remove(0)
	if m.has(0) || !m.has(3) || !m.add(0) {
		t.Error("remove")
	}
	m.clear()
	if m.has(0) || m.has(3) || !m.add(3) {
		t.Error("clear")
	}
}

func TestQuotaGrowsOnAndOn(t *testing.T) {
	for _, first := range []int{1, 2, 10, 1000} {
		s := newSearch(cnf(0), api.Settings{Budget: -1, Unit: 1, Learnt: first}, limitsBelow(), 1)
		quota := first
		for range 300 {
			// Layer 13 tells none of one that begins above 2^20: from there on the room alone counts, which is less.
			if got := reduce.Quota(s.first, s.times); got != quota && (got != 0 || quota <= theSetting) {
				t.Fatalf("from %d on: %d, not %d", first, got, quota)
			}
			s.raiseQuota()
			quota += quota/10 + 1
		}
	}
}

// broken decides and lets units follow till a clause is broken; its number.
func broken(s *search) int {
	for {
		if n := s.p.Run(); n != none || !s.decide() {
			return n
		}
	}
}

func TestGoesBack(t *testing.T) {
	// By -1, -2, -3 both 4 and its negation follow, and of these 1 and 3 are of use.
	f := cnf(4, []int{1, 3, 4}, []int{1, 3, -4})
	for _, c := range []struct{ unit, level, anew int }{{1, 0, 1}, {2, 1, 0}} {
		s := newSearch(f, api.Settings{Budget: -1, Unit: c.unit, Learnt: 9}, limitsBelow(), 1)
		if !s.turn(broken(s)) || s.p.Levels() != c.level || s.told.Restarts != c.anew || len(s.held) != 1 || s.order.Len() != 4-c.level {
			t.Errorf("unit %d: level %d, %d new beginnings", c.unit, s.p.Levels(), s.told.Restarts)
		}
		if got, _ := s.p.Clause(s.held[0].number); !slices.Equal(got, []int{3, 1}) || s.held[0].levels != 2 {
			t.Errorf("learned: %v, of %d levels", got, s.held[0].levels)
		}
	}
}

func TestForced(t *testing.T) {
	f := cnf(6, []int{1, 3, 4}, []int{1, 3, -4})
	l := limitsBelow()
	l.wide = 1
	s := newSearch(f, Usual(), l, 1)
	s.turn(broken(s))
	if s.p.Levels() != 2 || s.forces != 1 || len(s.held) != 0 || s.p.Value(3) != 1 || !slices.Equal(s.forced[1].clause, []int{3, 1}) {
		t.Errorf("level %d, %v", s.p.Levels(), s.forced)
	}
	// What is learned by level 1 is so upon what was forced there.
	s.p.Run()
	for range 2 {
		s.decide()
		s.p.Run()
	}
	last := s.p.Trail()
	c := []int{-last[len(last)-1], 1}
	if level := s.levelBehind(c); level != 2 {
		t.Errorf("level %d", level)
	}
	if level := s.levelBehind(c[:1]); level != 0 {
		t.Errorf("level %d", level)
	}
	s.back(last, 1)
	if s.forces != 0 || len(s.forced) != 1 || s.p.Levels() != 1 {
		t.Errorf("%d forced", s.forces)
	}
}

// holdWithin fails unless what is told by limits is so; it tells the search.
func holdWithin(t *testing.T, f api.Cnf, s api.Settings, l limits) *search {
	t.Helper()
	w, verdict, e := searched(f, s, l)
	x, e2 := solve(f, s, l)
	want := api.Unsat
	if f.Vars > few {
		want = hold(t, f, Usual()).Verdict
	} else if plainCount(f) > 0 {
		want = api.Sat
	}
	if e != api.OK || e2 != api.OK || verdict != want || x.Verdict != want {
		t.Fatalf("of %v, %v, %v: %d, %d, errors %d, %d", f, s, l, verdict, x.Verdict, e, e2)
	}
	if want == api.Sat || !w.record.lacking {
		isTold(t, f, x)
	}
	if !w.record.lacking && len(f.Clauses)+peak(x.Proof) > max(l.clauses, len(f.Clauses)) {
		t.Fatalf("of %v, %v, %v: more clauses by %v", f, s, l, x.Proof)
	}
	for _, step := range x.Proof {
		if !step.Del && len(step.Lits) > l.wide {
			t.Fatalf("of %v, %v, %v: wider by %v", f, s, l, x.Proof)
		}
	}
	return w
}

// harder is a formula that is seldom told without conflicts.
func harder(r *numbers) api.Cnf {
	vars := 6 + r.pick(few-5)
	return r.threes(vars, 4*vars+r.pick(3*vars))
}

func TestNoRoom(t *testing.T) {
	proven, left := 0, 0
	for seed := range 2000 {
		r := numbers(seed)
		f := harder(&r)
		s := r.settings()
		l := limits{clauses: len(f.Clauses) + r.pick(10), wide: theWide, steps: 1000}
		w := holdWithin(t, f, s, l)
		if len(w.left) == 0 {
			continue
		}
		left++
		if !w.record.lacking {
			proven++
		}
		// Conflicts count, whatever was left out behind them.
		x, _ := solve(f, s, l)
		s.Budget = x.Conflicts
		if y, e := solve(f, s, l); e != api.OK || !reflect.DeepEqual(x, y) {
			t.Fatalf("of %v, %v: %+v, %d", f, s, y, e)
		}
		if s.Budget--; s.Budget < 0 {
			continue
		}
		if y, e := solve(f, s, l); e != api.ErrOut || y.Verdict != api.Open || y.Conflicts != s.Budget {
			t.Fatalf("of %v, %v: %+v, %d", f, s, y, e)
		}
	}
	if left < 100 || proven < left/2 {
		t.Errorf("%d times clauses were left out, %d of them proven", left, proven)
	}
}

func TestLittleRoom(t *testing.T) {
	f := pigeons(6)
	for room := range 40 {
		l := limits{clauses: len(f.Clauses) + 1 + room, wide: theWide, steps: theClauses}
		x, e := solve(f, api.Settings{Budget: -1, Unit: 20, Learnt: theSetting}, l)
		if e != api.OK || x.Verdict != api.Unsat {
			t.Fatalf("room for %d: %+v, %d", room, x, e)
		}
		// Long ahead of the quota some go: there is no room for them.
		if room > 10 && x.Dropped == 0 {
			t.Errorf("room for %d: none went", room)
		}
	}
}

// bridges is how many steps were told ahead of something forced going, and how many of them went.
func bridges(t *testing.T, w *search) (adds, dels int) {
	t.Helper()
	for i, number := range w.record.numbers {
		switch step := w.record.steps[i]; {
		case number != none || len(step.Lits) == 0:
		case step.Del:
			dels++
		default:
			adds++
		}
	}
	if adds != dels+len(w.record.loose) {
		t.Fatalf("of %v: %d, %d went, %d are left", w.formula, adds, dels, len(w.record.loose))
	}
	return adds, dels
}

func TestNothingWide(t *testing.T) {
	forced, proven, went := 0, 0, 0
	for seed := range 2000 {
		r := numbers(seed + 7000)
		f := harder(&r)
		if seed%2 == 0 {
			f = r.threes(20+r.pick(15), 130)
		}
		w := holdWithin(t, f, r.settings(), limits{clauses: theClauses, wide: r.pick(7), steps: 1000})
		if !w.record.whole {
			continue
		}
		forced++
		adds, dels := bridges(t, w)
		went += dels
		if adds > 0 && !w.record.lacking {
			proven++
		}
	}
	if forced < 100 || proven < 20 || went < 20 {
		t.Errorf("%d times something was forced, %d times it was proven with bridges, of which %d went", forced, proven, went)
	}
}

func TestWhatForcedClausesNeedStays(t *testing.T) {
	// It seldom matters: of tens of thousands of formulas these have some where it does.
	for _, first := range []int{3850, 7600, 24050} {
		for seed := first; seed < first+100; seed++ {
			r := numbers(seed + 70000)
			vars := 14 + r.pick(20)
			f := r.threes(vars, vars*9/2)
			s := r.settings()
			l := limits{clauses: theClauses, wide: 2 + r.pick(3), steps: 100000}
			bridges(t, holdWithin(t, f, s, l))
			l.steps = 3
			holdWithin(t, f, s, l)
		}
	}
}

func TestNeitherRoomNorWide(t *testing.T) {
	for seed := range 2000 {
		r := numbers(seed + 3000)
		f := harder(&r)
		holdWithin(t, f, r.settings(), limits{clauses: len(f.Clauses) + r.pick(30), wide: r.pick(7), steps: r.pick(40)})
	}
}

func TestCountWithinLimits(t *testing.T) {
	for seed := range 2000 {
		r := numbers(seed + 9000)
		vars := 3 + r.pick(few-2)
		f := r.threes(vars, 2*vars+r.pick(3*vars))
		models := plainCount(f)
		most := r.pick(models + 3)
		if n := count(f, most, limits{clauses: len(f.Clauses) + most + r.pick(5), wide: r.pick(vars + 1)}); n != min(models, most) {
			t.Fatalf("of %v: %d, not %d, up to %d", f, n, models, most)
		}
	}
}

func TestTooManySteps(t *testing.T) {
	shorter, all, needed := 0, 0, 0
	for seed := range 300 {
		r := numbers(seed)
		f := r.threes(30+r.pick(20), 230)
		if seed%10 == 0 {
			f = pigeons(6)
		}
		s := r.settings()
		whole, _ := solve(f, s, limitsBelow())
		if whole.Verdict != api.Unsat {
			continue
		}
		l := limitsBelow()
		l.steps = len(whole.Proof)
		if x, _ := solve(f, s, l); !reflect.DeepEqual(x, whole) {
			t.Fatal("as many steps as there may be")
		}
		l.steps = len(whole.Proof) - 1
		x, _ := solve(f, s, l)
		isTold(t, f, x)
		if len(x.Proof) <= l.steps {
			shorter++
		}
		if peak(x.Proof) > peak(whole.Proof) {
			t.Fatalf("of %v, %v: %d clauses more, not %d", f, s, peak(x.Proof), peak(whole.Proof))
		}
		all += len(whole.Proof)
		needed += len(x.Proof)
		// Only steps are missing.
		rest := whole.Proof
		for _, step := range x.Proof {
			for len(rest) > 0 && !reflect.DeepEqual(rest[0], step) {
				rest = rest[1:]
			}
			if len(rest) == 0 {
				t.Fatalf("another step: %v", step)
			}
			rest = rest[1:]
		}
	}
	if shorter < 50 || needed > all*3/4 {
		t.Errorf("%d times it was shorter; %d steps, of %d", shorter, needed, all)
	}
}

func TestPeak(t *testing.T) {
	add, del := api.Step{Lits: []int{1}}, api.Step{Del: true, Lits: []int{1}}
	for _, c := range []struct {
		steps []api.Step
		peak  int
	}{
		{nil, 0},
		{[]api.Step{del, del, add}, 0},
		{[]api.Step{add, add, del, add, del, del}, 2},
	} {
		if n := peak(c.steps); n != c.peak {
			t.Errorf("of %v: %d", c.steps, n)
		}
	}
}

// fill is a formula with clauses more, up to so many in all.
func fill(f api.Cnf, clauses int, more func(i int) []int) api.Cnf {
	g := api.Cnf{Vars: f.Vars, Clauses: slices.Clone(f.Clauses)}
	for i := 0; len(g.Clauses) < clauses; i++ {
		c := more(i)
		g.Clauses = append(g.Clauses, c)
		for _, l := range c {
			g.Vars = max(g.Vars, l, -l)
		}
	}
	return g
}

func TestAsManyClausesAsThereMayBe(t *testing.T) {
	hard := pigeons(5)
	for _, clauses := range []int{theClauses - 1, theClauses} {
		for i, f := range []api.Cnf{
			fill(hard, clauses, func(i int) []int { return hard.Clauses[i%len(hard.Clauses)] }),
			fill(hard, clauses, func(i int) []int { return []int{-100 - i, -101 - i} }),
			fill(cnf(1, []int{-1}), clauses, func(i int) []int { return []int{1 + i} }),
			fill(cnf(2, []int{1, 2}, []int{1, -2}, []int{-1, 2}), clauses, func(int) []int { return []int{-1, -2} }),
		} {
			x, e := Solve(f, Usual())
			if e != api.OK || x.Verdict != api.Unsat {
				t.Fatalf("%d clauses, formula %d: %d, %d", clauses, i, x.Verdict, e)
			}
			isTold(t, f, x)
		}
		f := fill(cnf(3, []int{1, 2}, []int{1, -2}), clauses, func(i int) []int { return []int{-1, 2, 3 + i} })
		if x, e := Solve(f, Usual()); e != api.OK || x.Verdict != api.Sat {
			t.Fatalf("%d clauses: %d, %d", clauses, x.Verdict, e)
		} else {
			isTold(t, f, x)
		}
	}
}

func TestAllClausesOfAFullFormulaAreNeeded(t *testing.T) {
	// No clause can go, and without that none can follow: there is no proof, but it is Unsat.
	for _, clauses := range []int{theClauses - 1, theClauses} {
		f := fill(cnf(1, []int{1}, []int{-(clauses - 1)}), clauses, func(i int) []int { return []int{-i - 1, i + 2} })
		x, e := Solve(f, Usual())
		if e != api.OK || x.Verdict != api.Unsat || len(x.Proof) != 1 || drat.Plain(f, x.Proof) != (clauses < theClauses) {
			t.Errorf("%d clauses: %+v, %d", clauses, x, e)
		}
	}
}

// crowd is a formula whose conflicts hang on two rows of n variables each, none of which can be true.
func crowd(n int) api.Cnf {
	a, b, c, d, e, never := 2*n+1, 2*n+2, 2*n+3, 2*n+4, 2*n+5, 2*n+6
	one, two := row(1, n), row(n+1, n)
	f := cnf(never,
		append([]int{a, b}, one...), append([]int{a, c}, two...), []int{-b, -c},
		append([]int{-a, d}, one...), append([]int{-a, e}, two...), []int{-d, -e})
	for v := 1; v <= 2*n; v++ {
		f.Clauses = append(f.Clauses, []int{-v, never}, []int{-v, -never})
	}
	return f
}

func TestMoreThanAClauseMayHave(t *testing.T) {
	for _, n := range []int{3, 200, 300, 2047, 2048, 2049, 2100} {
		f := crowd(n)
		x, e := Solve(f, Usual())
		if e != api.OK || x.Verdict != api.Unsat {
			t.Fatalf("%d: %d, %d", n, x.Verdict, e)
		}
		isTold(t, f, x)
		// Where they can be true, all is well.
		f.Clauses = f.Clauses[:6]
		x, e = Solve(f, Usual())
		if e != api.OK || x.Verdict != api.Sat || x.Conflicts == 0 {
			t.Fatalf("%d: %d, %d", n, x.Verdict, e)
		}
		isTold(t, f, x)
	}
}

// fork is two chains of n variables each, that the first variable begins, and that are against each other.
func fork(n int) api.Cnf {
	f := cnf(2*n+1, []int{1, 2}, []int{1, n + 2}, []int{-n - 1, -2*n - 1})
	for i := range n - 1 {
		f.Clauses = append(f.Clauses, []int{-2 - i, 3 + i}, []int{-n - 2 - i, n + 3 + i})
	}
	return f
}

func TestLongerThanLayer12Takes(t *testing.T) {
	for _, n := range []int{1, 2000, 2047, 2048, 2049, 10000} {
		f := fork(n)
		if x, e := Solve(f, Usual()); e != api.OK || x.Verdict != api.Sat || x.Conflicts != 1 {
			t.Fatalf("%d: %d, %d", n, x.Verdict, e)
		} else {
			isTold(t, f, x)
		}
		f.Clauses = append(f.Clauses, []int{-1, 2}, []int{-1, n + 2})
		if x, e := Solve(f, Usual()); e != api.OK || x.Verdict != api.Unsat || x.Conflicts != 1 {
			t.Fatalf("%d: %d, %d", n, x.Verdict, e)
		} else {
			isTold(t, f, x)
		}
	}
}

func TestAsManyVariablesAsThereMayBe(t *testing.T) {
	for _, f := range []api.Cnf{
		cnf(theVars),
		cnf(theVars, []int{theVars}, []int{-theVars, -1}),
		cnf(theVars, row(theVars-theWide+1, theWide), row(-theWide, theWide)),
	} {
		x, e := Solve(f, Usual())
		if e != api.OK || x.Verdict != api.Sat {
			t.Fatalf("%d, %d", x.Verdict, e)
		}
		isTold(t, f, x)
	}
	f := cnf(theVars, []int{theVars, 1}, []int{theVars, -1}, []int{-theVars, 2}, []int{-2, -theVars})
	x, e := Solve(f, Usual())
	if e != api.OK || x.Verdict != api.Unsat {
		t.Fatalf("%d, %d", x.Verdict, e)
	}
	isTold(t, f, x)
}
