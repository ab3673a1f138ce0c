package prop

import (
	"fmt"
	"math"
	"slices"
	"strings"
	"testing"

	"fathom/api"
)

const top = api.MaxVar

// wide is a clause of n literals, of the variables from first on.
func wide(first, n int) []int {
	c := make([]int, n)
	for i := range c {
		c[i] = first + i
	}
	return c
}

// chain is a formula by which of 1 follow 2, 3 and so on, up to vars.
func chain(vars int) api.Cnf {
	f := api.Cnf{Vars: vars}
	for v := 1; v < vars; v++ {
		f.Clauses = append(f.Clauses, []int{-v, v + 1})
	}
	return f
}

// twin is a propagator, another one of which the same is asked, and what is known of both by what was asked.
type twin struct {
	t         *testing.T
	p, q      *Prop
	vars      int
	clauses   [][]int
	gone      []bool
	decisions []int
	log       []string
}

// made is a twin of a formula.
func made(t *testing.T, vars int, clauses ...[]int) *twin {
	t.Helper()
	w := &twin{t: t, vars: vars, gone: make([]bool, len(clauses))}
	for _, c := range clauses {
		w.clauses = append(w.clauses, slices.Clone(c))
	}
	f := api.Cnf{Vars: vars, Clauses: clauses}
	w.log = append(w.log, fmt.Sprintf("New(%v)", f))
	var e, e2 api.Errno
	w.p, e = New(f)
	w.q, e2 = New(f)
	if e != api.OK || e2 != api.OK || w.p == nil || w.p == w.q {
		t.Fatalf("New(%v): %v, %d", f, w.p, e)
	}
	if len(w.p.Trail()) != 0 {
		w.fail("the trail of a new one is %v", w.p.Trail())
	}
	w.sound()
	return w
}

// fail ends the test, and tells all that was asked.
func (w *twin) fail(format string, args ...any) {
	w.t.Helper()
	w.t.Fatalf("%s\nbehind %s", fmt.Sprintf(format, args...), strings.Join(w.log, ", "))
}

// add adds a clause that fits; its number.
func (w *twin) add(c ...int) int {
	w.t.Helper()
	w.log = append(w.log, fmt.Sprintf("Add(%v)", c))
	trail := w.p.Trail()
	n, e := w.p.Add(c)
	n2, e2 := w.q.Add(c)
	if e != api.OK || e2 != api.OK || n != len(w.clauses) || n2 != n {
		w.fail("%d, %d, and of its like %d, %d", n, e, n2, e2)
	}
	w.clauses = append(w.clauses, slices.Clone(c))
	w.gone = append(w.gone, false)
	w.stays(trail)
	return n
}

// drop drops a clause, if that may be.
func (w *twin) drop(i int) api.Errno {
	w.t.Helper()
	w.log = append(w.log, fmt.Sprintf("Drop(%d)", i))
	trail := w.p.Trail()
	want := api.OK
	if i < 0 || i >= len(w.clauses) || w.gone[i] {
		want = api.ErrNone
	} else if slices.ContainsFunc(trail, func(l int) bool { return w.p.Reason(l) == i }) {
		want = api.ErrBad
	}
	e, e2 := w.p.Drop(i), w.q.Drop(i)
	if e != want || e2 != want {
		w.fail("%d, and of its like %d; not %d", e, e2, want)
	}
	if want == api.OK {
		w.gone[i] = true
	}
	w.stays(trail)
	return e
}

// decide decides a literal, if that may be.
func (w *twin) decide(l int) api.Errno {
	w.t.Helper()
	w.log = append(w.log, fmt.Sprintf("Decide(%d)", l))
	trail := w.p.Trail()
	want := api.OK
	if l == 0 || l < -w.vars || l > w.vars || slices.Contains(trail, l) || slices.Contains(trail, -l) {
		want = api.ErrArg
	}
	e, e2 := w.p.Decide(l), w.q.Decide(l)
	if e != want || e2 != want {
		w.fail("%d, and of its like %d; not %d", e, e2, want)
	}
	if want == api.OK {
		w.decisions = append(w.decisions, l)
		trail = append(trail, l)
	}
	w.stays(trail)
	return e
}

// decides decides literals that are open.
func (w *twin) decides(literals ...int) {
	w.t.Helper()
	for _, l := range literals {
		if e := w.decide(l); e != api.OK {
			w.fail("%d", e)
		}
	}
}

// back takes levels back.
func (w *twin) back(level int) {
	w.t.Helper()
	w.log = append(w.log, fmt.Sprintf("Back(%d)", level))
	var left []int
	for _, l := range w.p.Trail() {
		if w.p.Level(l) <= max(level, 0) {
			left = append(left, l)
		}
	}
	w.p.Back(level)
	w.q.Back(level)
	if level < len(w.decisions) {
		w.decisions = w.decisions[:max(level, 0)]
	}
	w.stays(left)
}

// run runs it, and holds what it tells, and what is then true, against a plain propagator's.
func (w *twin) run() int {
	w.t.Helper()
	w.log = append(w.log, "Run()")
	ahead := w.p.Trail()
	n, n2 := w.p.Run(), w.q.Run()
	trail := w.p.Trail()
	if n != n2 || !slices.Equal(trail, w.q.Trail()) {
		w.fail("%d, %v, and of its like %d, %v", n, trail, n2, w.q.Trail())
	}
	if len(trail) < len(ahead) || !slices.Equal(trail[:len(ahead)], ahead) {
		w.fail("the trail was %v, and is %v", ahead, trail)
	}
	w.sound()
	follow, broken := w.plain()
	switch {
	case n < -1 || n >= len(w.clauses) || (n >= 0) != broken:
		w.fail("%d; but that a clause is broken: %v", n, broken)
	case n >= 0 && w.gone[n]:
		w.fail("%d, which was dropped", n)
	case n >= 0 && w.rest(n) != "broken":
		w.fail("%d, which is %s, of the trail %v", n, w.rest(n), trail)
	case n < 0 && !slices.Equal(sorted(trail), follow):
		w.fail("the trail is %v; but what follows is %v", trail, follow)
	}
	for i := range w.clauses {
		if n < 0 && !w.gone[i] && w.rest(i) != "" {
			w.fail("clause %d is %s, of the trail %v", i, w.rest(i), trail)
		}
	}
	return n
}

// runs fails unless nothing is broken, and just these are true.
func (w *twin) runs(literals ...int) {
	w.t.Helper()
	if n := w.run(); n != -1 {
		w.fail("%d", n)
	}
	if trail := w.p.Trail(); !slices.Equal(sorted(trail), sorted(literals)) {
		w.fail("the trail is %v; not %v, in some order", trail, literals)
	}
}

// breaks fails unless one of these clauses is told to be broken.
func (w *twin) breaks(numbers ...int) {
	w.t.Helper()
	if n := w.run(); !slices.Contains(numbers, n) {
		w.fail("%d is told; not one of %v", n, numbers)
	}
}

// rest is what a clause is by the values of literals: broken, unit, or neither.
func (w *twin) rest(i int) string {
	var open []int
	for _, l := range w.clauses[i] {
		switch w.p.Value(l) {
		case 1:
			return ""
		case 0:
			open = append(open, l)
		}
	}
	slices.Sort(open)
	return map[int]string{0: "broken", 1: "unit"}[len(slices.Compact(open))]
}

// plain is what follows from the decisions, by the clauses that are left, gone through again and again; and whether one is broken.
func (w *twin) plain() ([]int, bool) {
	truths := map[int]bool{}
	for _, l := range w.decisions {
		truths[l] = true
	}
	for again := true; again; {
		again = false
	clauses:
		for i, c := range w.clauses {
			open := 0
			for _, l := range c {
				if truths[l] || !truths[-l] && open != 0 && open != l {
					continue clauses
				}
				if !truths[-l] {
					open = l
				}
			}
			switch {
			case w.gone[i]:
			case open == 0:
				return nil, true
			default:
				truths[open] = true
				again = true
			}
		}
	}
	var follow []int
	for l := range truths {
		follow = append(follow, l)
	}
	return sorted(follow), false
}

// sorted is a list of the same numbers, rising.
func sorted(l []int) []int {
	s := slices.Clone(l)
	slices.Sort(s)
	return s
}

// stays fails unless this is the trail, and a trail.
func (w *twin) stays(trail []int) {
	w.t.Helper()
	if got := w.p.Trail(); !slices.Equal(got, trail) {
		w.fail("the trail is %v; not %v", got, trail)
	}
	w.sound()
}

// sound fails unless what is told of the trail, and of the clauses, is so by what was asked.
func (w *twin) sound() {
	w.t.Helper()
	trail := w.p.Trail()
	level := 0
	for i, l := range trail {
		if l == 0 || l < -w.vars || l > w.vars || slices.Contains(trail[:i], l) || slices.Contains(trail[:i], -l) {
			w.fail("the trail is %v", trail)
		}
		if w.p.Value(l) != 1 || w.p.Value(-l) != -1 {
			w.fail("%d is true: %d, and %d", l, w.p.Value(l), w.p.Value(-l))
		}
		reason := w.p.Reason(l)
		if reason == -1 {
			if level == len(w.decisions) || w.decisions[level] != l {
				w.fail("%d without a reason in %v; decided was %v", l, trail, w.decisions)
			}
			level++
		} else {
			w.justified(l, reason, trail[:i])
		}
		if w.p.Level(l) != level || w.p.Level(-l) != level || w.p.Reason(-l) != reason {
			w.fail("%d is of level %d, by %d, and %d of %d, by %d; of %v", l, w.p.Level(l), reason, -l, w.p.Level(-l), w.p.Reason(-l), trail)
		}
	}
	if level != len(w.decisions) || w.p.Levels() != level {
		w.fail("%d levels, of %d decisions; the trail is %v", w.p.Levels(), len(w.decisions), trail)
	}
	for v := 1; v <= w.vars; v++ {
		if !slices.Contains(trail, v) && !slices.Contains(trail, -v) {
			w.open(v)
			w.open(-v)
		}
	}
	w.listed()
}

// justified fails unless a clause may be a literal's reason, behind these.
func (w *twin) justified(l, reason int, ahead []int) {
	w.t.Helper()
	if reason < 0 || reason >= len(w.clauses) || w.gone[reason] || !slices.Contains(w.clauses[reason], l) {
		w.fail("%d by %d", l, reason)
	}
	for _, k := range w.clauses[reason] {
		if k != l && !slices.Contains(ahead, -k) {
			w.fail("%d by %v, behind %v", l, w.clauses[reason], ahead)
		}
	}
}

// open fails unless this is told of a number: that it is neither true nor false.
func (w *twin) open(l int) {
	w.t.Helper()
	if w.p.Value(l) != 0 || w.p.Level(l) != -1 || w.p.Reason(l) != -1 {
		w.fail("%d is open: %d, of level %d, by %d", l, w.p.Value(l), w.p.Level(l), w.p.Reason(l))
	}
}

// listed fails unless the clauses are as they were added, but those that were dropped.
func (w *twin) listed() {
	w.t.Helper()
	for i, c := range w.clauses {
		got, ok := w.p.Clause(i)
		if w.gone[i] && (ok || len(got) != 0) || !w.gone[i] && (!ok || !slices.Equal(got, c)) {
			w.fail("Clause(%d) = %v, %v; it was added as %v, and dropped: %v", i, got, ok, c, w.gone[i])
		}
	}
	for _, i := range []int{math.MinInt, -2, -1, len(w.clauses), len(w.clauses) + 1, math.MaxInt} {
		if got, ok := w.p.Clause(i); ok || len(got) != 0 {
			w.fail("Clause(%d) = %v, %v", i, got, ok)
		}
	}
}

func TestExample(t *testing.T) {
	p, e := New(api.Cnf{Vars: 3, Clauses: [][]int{{-1, 2}, {-2, 3}}})
	if e != api.OK || p.Decide(1) != api.OK {
		t.Fatal("New, Decide")
	}
	if n := p.Run(); n != -1 || !slices.Equal(p.Trail(), []int{1, 2, 3}) {
		t.Errorf("Run() = %d, Trail() = %v", n, p.Trail())
	}
	if p.Reason(1) != -1 || p.Reason(2) != 0 || p.Reason(-3) != 1 || p.Level(3) != 1 || p.Levels() != 1 {
		t.Error("Reason, Level, Levels")
	}
}

func TestNewOfNoFormula(t *testing.T) {
	for i, f := range []api.Cnf{
		{Vars: -1}, {Vars: top + 1}, {Vars: math.MinInt}, {Vars: math.MaxInt},
		{Vars: 2, Clauses: [][]int{{1, 0}}}, {Vars: 2, Clauses: [][]int{{3}}}, {Vars: 2, Clauses: [][]int{{1}, {2, -3}}},
		{Clauses: [][]int{{1}}}, {Vars: top, Clauses: [][]int{{top + 1}}}, {Vars: 2, Clauses: [][]int{{math.MinInt}}},
		{Vars: 1, Clauses: [][]int{slices.Repeat([]int{1}, api.MaxWide+1)}},
		{Vars: 1, Clauses: make([][]int, api.MaxClauses+1)},
	} {
		if p, e := New(f); e != api.ErrArg || p != nil {
			t.Errorf("no formula %d: %v, %d", i, p, e)
		}
	}
}

func TestNoVariableAndNoClause(t *testing.T) {
	w := made(t, 0)
	w.runs()
	for _, l := range []int{0, 1, -1} {
		w.decide(l)
		w.open(l)
	}
	if _, e := w.p.Add([]int{1}); e != api.ErrArg {
		t.Errorf("Add: %d", e)
	}
	w.drop(0)
	w.back(0)
	w.runs()
	w.breaks(w.add())
	w.drop(0)
	w.runs()
	w = made(t, 3)
	w.runs()
	w.decides(-2, 3)
	w.runs(-2, 3)
	w.back(1)
	w.runs(-2)
	w.back(0)
	w.runs()
}

func TestEmptyClause(t *testing.T) {
	w := made(t, 2, []int{1, 2}, []int{})
	w.breaks(1)
	w.breaks(1)
	w.decides(-1)
	w.breaks(1)
	w.back(0)
	w.breaks(1)
	w.drop(1)
	w.runs()
	w.decides(-1)
	w.runs(-1, 2)
	n := w.add()
	w.breaks(n)
	w.back(0)
	w.breaks(n)
	w.decides(-2)
	w.breaks(n)
	w.drop(n)
	w.runs(-2, 1)
	w = made(t, 0, nil, nil)
	w.breaks(0, 1)
	w.drop(0)
	w.breaks(1)
	w.drop(1)
	w.runs()
}

func TestLiteralThatStandsMoreThanOnce(t *testing.T) {
	w := made(t, 3, []int{1, 1}, []int{-1, 2, -1, 2}, []int{3, 3, -2, 3})
	w.runs(1, 2, 3)
	w = made(t, 3, []int{1, 2, 1, 2, 2, 1})
	w.runs()
	w.decides(-2)
	w.runs(-2, 1)
	w.back(0)
	w.decides(-1)
	w.runs(-1, 2)
	w.back(0)
	w.decides(-1, -2)
	w.breaks(0)
	w.back(1)
	w.runs(-1, 2)
	n := w.add(-2, 3, -2, 3, 1)
	w.runs(-1, 2, 3)
	w.drop(n)
	w.back(0)
	w.add(-3, -3, -3)
	w.runs(-3)
}

func TestTautology(t *testing.T) {
	w := made(t, 2, []int{1, -1}, []int{2, 1, -2})
	w.runs()
	w.decides(1)
	w.runs(1)
	w.back(0)
	w.decides(-1)
	w.runs(-1)
	w.add(1, -1)
	w.add(1, -1, 1, 2)
	w.add(-2, 2, 1)
	w.runs(-1)
	w.decides(-2)
	w.runs(-1, -2)
	w.back(0)
	w.decides(1, 2)
	w.runs(1, 2)
}

func TestClauseOfOneLiteral(t *testing.T) {
	w := made(t, 3, []int{-2}, []int{2, 1})
	w.runs(-2, 1)
	if w.p.Level(1) != 0 || w.p.Level(2) != 0 || w.p.Reason(2) != 0 || w.p.Levels() != 0 {
		t.Error("of level 0, by their clauses")
	}
	w.add(3)
	w.back(0)
	w.runs(-2, 1, 3)
	w.breaks(w.add(2))
	w = made(t, 2, []int{1}, []int{-1})
	w.breaks(0, 1)
	w.breaks(0, 1)
	w.back(0)
	w.breaks(0, 1)
}

func TestClauseOfOneLiteralAddedBehindDecisions(t *testing.T) {
	w := made(t, 4)
	w.decides(1, 2)
	n := w.add(3)
	w.runs(1, 2, 3)
	w.back(1)
	w.runs(1, 3)
	w.back(0)
	w.runs(3)
	w.decides(1)
	w.back(0)
	w.runs(3)
	if e := w.drop(n); e != api.ErrBad {
		t.Errorf("Drop of a reason for good: %d", e)
	}
	w.decides(1, 4)
	w.runs(1, 4, 3)
	n = w.add(-4)
	w.breaks(n)
	w.breaks(n)
	w.back(1)
	w.runs(1, 3, -4)
	w.back(0)
	w.decides(4)
	w.breaks(n)
	w.back(0)
	w.runs(3, -4)
}

func TestClauseThatIsTrueByADecisionWhenItIsAdded(t *testing.T) {
	w := made(t, 4)
	w.decides(-1, 2)
	w.runs(-1, 2)
	n := w.add(1, 2)
	m := w.add(2)
	w.runs(-1, 2)
	w.back(1)
	w.runs(-1, 2)
	w.back(0)
	w.runs(2)
	w.drop(n)
	if w.drop(m) != api.ErrBad {
		t.Error("m is a reason for good")
	}
}

func TestClauseThatIsUnitWhenItIsAdded(t *testing.T) {
	w := made(t, 5, []int{-1})
	w.runs(-1)
	w.add(1, 2)
	w.runs(-1, 2)
	w.decides(-3, -4)
	w.runs(-1, 2, -3, -4)
	n := w.add(1, 3, 5)
	if w.p.Value(5) != 0 {
		t.Error("it is open ahead of Run")
	}
	w.runs(-1, 2, -3, -4, 5)
	if w.p.Level(5) != 2 || w.p.Reason(5) != n {
		t.Errorf("5 is of level %d, by %d", w.p.Level(5), w.p.Reason(5))
	}
	w.back(1)
	w.runs(-1, 2, -3, 5)
	if w.p.Level(5) != 1 || w.p.Reason(5) != n {
		t.Errorf("5 is of level %d, by %d", w.p.Level(5), w.p.Reason(5))
	}
	w.back(0)
	w.runs(-1, 2)
	w.decides(-5)
	w.runs(-1, 2, -5, 3)
}

func TestClauseThatIsUnitWhenItIsAddedAndTakenBackAheadOfRun(t *testing.T) {
	w := made(t, 4)
	w.decides(-1, -2, 4)
	w.runs(-1, -2, 4)
	w.add(2, 3, 1)
	w.back(2)
	w.decides(4)
	w.runs(-1, -2, 4, 3)
	w.back(2)
	w.back(1)
	w.runs(-1)
	w.decides(-3)
	w.runs(-1, -3, 2)
	w.back(1)
	w.decides(-2)
	w.runs(-1, -2, 3)
}

func TestClauseThatIsBrokenWhenItIsAdded(t *testing.T) {
	w := made(t, 5, []int{-1, 2})
	w.decides(1, 3, -4)
	w.runs(1, 2, 3, -4)
	n := w.add(4, -3, -1)
	w.breaks(n)
	w.breaks(n)
	w.decides(5)
	w.breaks(n)
	w.back(2)
	w.runs(1, 2, 3, 4)
	w.back(1)
	w.runs(1, 2)
	w.decides(-4)
	w.runs(1, 2, -4, -3)
	w.back(0)
	w.runs()
	w.decides(3, -4)
	w.runs(3, -4, -1)
	w = made(t, 2, []int{1}, []int{2})
	w.runs(1, 2)
	n = w.add(-2, -1)
	w.breaks(n)
	w.back(0)
	w.breaks(n)
	w.drop(n)
	w.runs(1, 2)
}

func TestClauseThatIsBrokenByOneLevelAlone(t *testing.T) {
	w := made(t, 4, []int{-1, 2}, []int{-2, 3})
	w.decides(1)
	w.runs(1, 2, 3)
	n := w.add(-3, -2)
	w.breaks(n)
	w.back(0)
	w.runs()
	w.decides(1)
	w.breaks(n, 1)
	w.back(0)
	w.decides(2)
	w.breaks(n, 1)
	w.back(0)
	w.decides(3)
	w.runs(3, -2, -1)
}

func TestClauseThatIsTrueWhenItIsAdded(t *testing.T) {
	w := made(t, 4)
	w.decides(-1, -2, 3)
	w.runs(-1, -2, 3)
	w.add(1, 3)
	w.add(2, 1, 3)
	w.add(-1, 4)
	w.runs(-1, -2, 3)
	w.back(2)
	w.runs(-1, -2, 3)
	w.back(1)
	w.runs(-1, 3)
	w.back(0)
	w.runs()
	w.decides(1)
	w.runs(1, 4)
}

func TestClauseWhoseTrueLiteralIsAheadOfTheOthers(t *testing.T) {
	w := made(t, 3)
	w.decides(1, -2, -3)
	w.runs(1, -2, -3)
	w.add(3, 2, 1)
	w.back(2)
	w.runs(1, -2)
	w.back(1)
	w.runs(1)
	w.back(0)
	w.decides(-3, -2)
	w.runs(-3, -2, 1)
	w.back(0)
	w.decides(-1, -2)
	w.runs(-1, -2, 3)
}

func TestDecisionsWithoutARunBetweenThem(t *testing.T) {
	w := made(t, 5, []int{-1, 2}, []int{-1, 3}, []int{-2, -3, 4})
	w.decides(1, 5)
	w.runs(1, 5, 2, 3, 4)
	if w.p.Level(2) != 2 || w.p.Level(4) != 2 {
		t.Error("what follows stands behind both, and is of level 2")
	}
	w.back(1)
	w.runs(1, 2, 3, 4)
	if w.p.Level(4) != 1 {
		t.Error("it follows again, of level 1")
	}
	w.back(0)
	w.runs()
	// What would have followed, too.
	w.decides(1, 2, 4)
	w.runs(1, 2, 4, 3)
	w.back(2)
	w.runs(1, 2, 3, 4)
	w.back(1)
	w.runs(1, 2, 3, 4)
	w.back(0)
	// And what could not.
	w.decides(1, -2)
	w.breaks(0)
	w.back(1)
	w.runs(1, 2, 3, 4)
	w.back(0)
	w.decides(1, -4, 5)
	w.breaks(0, 1, 2)
	w.back(2)
	w.breaks(0, 1, 2)
	w.back(1)
	w.runs(1, 2, 3, 4)
}

func TestDecisionThatMakesAClauseTrueAheadOfARun(t *testing.T) {
	w := made(t, 4, []int{-1, 2, 3})
	w.decides(1, -2, 3, 4)
	w.runs(1, -2, 3, 4)
	w.back(2)
	w.runs(1, -2, 3)
	w.back(1)
	w.decides(3, -2)
	w.runs(1, 3, -2)
	w.back(1)
	w.decides(-2)
	w.runs(1, -2, 3)
}

func TestDecideOfWhatMayNotBe(t *testing.T) {
	w := made(t, 3, []int{-1, 2})
	for _, l := range []int{0, 4, -4, top, -top, top + 1, -top - 1, math.MaxInt, math.MinInt} {
		if e := w.decide(l); e != api.ErrArg {
			t.Errorf("Decide(%d): %d", l, e)
		}
	}
	w.decides(1)
	w.runs(1, 2)
	for _, l := range []int{1, -1, 2, -2, 0, 4} {
		if e := w.decide(l); e != api.ErrArg {
			t.Errorf("Decide(%d): %d", l, e)
		}
	}
	w.runs(1, 2)
	w.decides(-3)
	w.back(0)
	w.decides(-2)
	w.runs(-2, -1)
}

func TestRunTwice(t *testing.T) {
	w := made(t, 3, []int{1}, []int{-1, 2, 3})
	w.runs(1)
	w.runs(1)
	w.decides(-2)
	w.runs(1, -2, 3)
	trail := w.p.Trail()
	w.runs(1, -2, 3)
	w.stays(trail)
	w.back(1)
	w.runs(1, -2, 3)
	w.stays(trail)
}

func TestRunBehindABrokenClause(t *testing.T) {
	square := [][]int{{-1, 2}, {-1, 3}, {-2, -3}, {-4, 5}}
	w := made(t, 6, square...)
	w.decides(1)
	w.breaks(0, 1, 2)
	w.breaks(0, 1, 2)
	w.decides(4)
	w.breaks(0, 1, 2)
	w.back(1)
	w.breaks(0, 1, 2)
	w.back(0)
	w.runs()
	w.decides(4)
	w.runs(4, 5)
	w.decides(1)
	n := w.run()
	if e := w.drop(n); e != api.OK {
		t.Errorf("Drop of the broken one: %d", e)
	}
	if n := w.run(); n != -1 {
		t.Errorf("behind the drop: %d", n)
	}
	w.back(1)
	w.runs(4, 5)
	w.add(square[n]...)
	w.runs(4, 5)
	w.decides(1)
	if n := w.run(); n < 0 {
		t.Errorf("added again: %d", n)
	}
}

func TestBrokenClauseOfAListThatIsGoneThroughAgain(t *testing.T) {
	// All of them watch one literal; the one that is broken stands among them.
	w := made(t, 7, []int{-1, 2}, []int{-1, 3}, []int{-1, 4}, []int{-1, 5}, []int{-1, 6}, []int{-1, 7})
	w.decides(-4, 1)
	w.breaks(2)
	w.breaks(2)
	w.drop(2)
	w.runs(-4, 1, 2, 3, 5, 6, 7)
	w.back(1)
	w.decides(-6, 1)
	w.breaks(4)
	w.back(1)
	w.decides(1)
	w.runs(-4, 1, 2, 3, 5, 6, 7)
	w.back(0)
	w.decides(1)
	w.runs(1, 2, 3, 5, 6, 7)
}

func TestBack(t *testing.T) {
	w := made(t, 8, []int{8}, []int{-1, 2}, []int{-3, 4}, []int{-5, 6})
	again := func() {
		t.Helper()
		w.runs(8)
		w.decides(1)
		w.runs(8, 1, 2)
		w.decides(3)
		w.runs(8, 1, 2, 3, 4)
		w.decides(5)
		w.runs(8, 1, 2, 3, 4, 5, 6)
	}
	all := []int{8, 1, 2, 3, 4, 5, 6}
	for _, c := range []struct{ level, left int }{
		{math.MinInt, 1}, {-1, 1}, {0, 1}, {1, 3}, {2, 5}, {3, 7}, {4, 7}, {math.MaxInt, 7},
	} {
		w.back(0)
		again()
		w.stays(all)
		w.back(c.level)
		w.stays(all[:c.left])
		if w.p.Levels() != len(w.decisions) || w.p.Levels() != (c.left-1)/2 {
			t.Errorf("Back(%d): %d levels", c.level, w.p.Levels())
		}
		w.runs(all[:c.left]...)
	}
}

func TestBackAheadOfAnyRun(t *testing.T) {
	w := made(t, 4, []int{-1, 2}, []int{3})
	w.decides(1, 4)
	w.back(1)
	w.stays([]int{1})
	w.runs(1, 2, 3)
	if w.p.Level(3) != 1 {
		t.Error("no Run was ahead of the decision")
	}
	w.back(0)
	w.stays(nil)
	w.runs(3)
	if w.p.Level(3) != 0 {
		t.Error("ahead of all decisions")
	}
	w.decides(1)
	w.back(0)
	w.stays([]int{3})
}

func TestDrop(t *testing.T) {
	w := made(t, 4, []int{-1, 2}, []int{-2, 3}, []int{-1, 3}, []int{4, 1})
	w.decides(1)
	w.runs(1, 2, 3)
	reason := w.p.Reason(3)
	other := 3 - reason
	if e := w.drop(0); e != api.ErrBad {
		t.Errorf("Drop of 2's reason: %d", e)
	}
	if e := w.drop(reason); e != api.ErrBad {
		t.Errorf("Drop of 3's reason: %d", e)
	}
	if e := w.drop(other); e != api.OK {
		t.Errorf("Drop of no reason: %d", e)
	}
	w.runs(1, 2, 3)
	w.back(0)
	if e := w.drop(reason); e != api.OK {
		t.Errorf("Drop of a reason that was taken back: %d", e)
	}
	w.decides(1)
	w.runs(1, 2)
	w.back(0)
	w.decides(-1)
	w.runs(-1, 4)
	for _, i := range []int{other, reason, 4, 5, -1, math.MinInt, math.MaxInt} {
		if e := w.drop(i); e != api.ErrNone {
			t.Errorf("Drop(%d): %d", i, e)
		}
	}
	if n := w.add(-4, 3); n != 4 {
		t.Errorf("the next clause is %d", n)
	}
	w.runs(-1, 4, 3)
}

func TestDropOfOneOfTwoLikeClauses(t *testing.T) {
	w := made(t, 2, []int{1, 2}, []int{1, 2}, []int{2}, []int{2})
	w.runs(2)
	n := w.p.Reason(2)
	if w.drop(n) != api.ErrBad || w.drop(5-n) != api.OK {
		t.Error("just one of the two is the reason")
	}
	w.drop(0)
	w.drop(1)
	w.runs(2)
}

func TestDropOfLateClausesAheadOfRun(t *testing.T) {
	w := made(t, 3, []int{1}, []int{1}, []int{})
	w.drop(2)
	w.drop(0)
	w.runs(1)
	w.decides(2, -3)
	w.runs(1, 2, -3)
	n := w.add(3, -2)
	w.drop(n)
	w.runs(1, 2, -3)
	n = w.add(3, -2)
	w.breaks(n)
	w.drop(n)
	w.runs(1, 2, -3)
	w.back(1)
	n = w.add(3)
	w.runs(1, 2, 3)
	w.back(0)
	w.drop(n)
	w.runs(1)
}

func TestWhatFollowsNoMoreWithoutAClause(t *testing.T) {
	w := made(t, 3, []int{-1, 2}, []int{-2, 3}, []int{-3, -1})
	w.decides(1)
	w.breaks(0, 1, 2)
	w.back(0)
	w.drop(1)
	w.decides(1)
	w.runs(1, 2, -3)
	w.back(0)
	w.drop(2)
	w.decides(1)
	w.runs(1, 2)
	w.back(0)
	w.drop(0)
	w.decides(1)
	w.runs(1)
}

func TestAddOfWhatMayNotBe(t *testing.T) {
	w := made(t, 3, []int{1, 2})
	for i, c := range [][]int{
		{0}, {1, 0}, {4}, {-4}, {1, 2, 4}, {top}, {top + 1}, {-top - 1}, {math.MaxInt}, {1, math.MinInt},
		slices.Repeat([]int{1}, api.MaxWide+1),
	} {
		if n, e := w.p.Add(c); e != api.ErrArg || n != 0 {
			t.Errorf("no clause %d: %d, %d", i, n, e)
		}
	}
	w.sound()
	if n := w.add(3, -3); n != 1 {
		t.Errorf("the next clause is %d", n)
	}
}

func TestOfWhatIsNoLiteral(t *testing.T) {
	w := made(t, 3, []int{1}, []int{-3})
	w.runs(1, -3)
	for _, l := range []int{0, 2, -2, 4, -4, 7, -7, top, -top, top + 1, math.MaxInt, math.MinInt} {
		w.open(l)
	}
	if w.p.Value(1) != 1 || w.p.Value(-1) != -1 || w.p.Value(3) != -1 || w.p.Value(-3) != 1 {
		t.Error("Value")
	}
}

func TestMostClauses(t *testing.T) {
	p, e := New(api.Cnf{Vars: 2, Clauses: slices.Repeat([][]int{{1, 2}}, api.MaxClauses)})
	if e != api.OK {
		t.Fatal(e)
	}
	full := func() {
		t.Helper()
		for _, c := range [][]int{nil, {1}, {-1, 2}} {
			if n, e := p.Add(c); e != api.ErrFull || n != 0 {
				t.Errorf("Add(%v): %d, %d", c, n, e)
			}
		}
		for _, c := range [][]int{{3}, {0}, {1, math.MinInt}} {
			if n, e := p.Add(c); e != api.ErrArg || n != 0 {
				t.Errorf("Add(%v): %d, %d", c, n, e)
			}
		}
		if c, ok := p.Clause(api.MaxClauses + 1); ok || c != nil {
			t.Errorf("a clause more: %v", c)
		}
	}
	full()
	if p.Decide(-1) != api.OK || p.Run() != -1 || p.Value(2) != 1 {
		t.Error("Run")
	}
	p.Back(0)
	// One that is gone makes room for one.
	if e := p.Drop(7); e != api.OK {
		t.Errorf("Drop: %d", e)
	}
	if n, e := p.Add([]int{-2}); n != api.MaxClauses || e != api.OK {
		t.Errorf("Add: %d, %d", n, e)
	}
	full()
	if p.Run() != -1 || !slices.Equal(p.Trail(), []int{-2, 1}) {
		t.Error("Run, of the last clause")
	}
	for i := range api.MaxClauses {
		want := api.OK
		switch i {
		case 7:
			want = api.ErrNone
		case p.Reason(1):
			want = api.ErrBad
		}
		if e := p.Drop(i); e != want {
			t.Fatalf("Drop(%d): %d", i, e)
		}
	}
	if p.Run() != -1 || !slices.Equal(p.Trail(), []int{-2, 1}) {
		t.Error("two clauses are left")
	}
}

func TestMostClausesOneByOne(t *testing.T) {
	p, _ := New(api.Cnf{Vars: api.MaxClauses})
	for i := range api.MaxClauses {
		if n, e := p.Add([]int{-i - 1}); n != i || e != api.OK {
			t.Fatalf("clause %d: %d, %d", i, n, e)
		}
	}
	if n, e := p.Add([]int{1}); n != 0 || e != api.ErrFull {
		t.Errorf("one more: %d, %d", n, e)
	}
	if p.Run() != -1 || len(p.Trail()) != api.MaxClauses || p.Levels() != 0 {
		t.Error("Run")
	}
}

func TestManyClausesThatComeAndGo(t *testing.T) {
	w := made(t, 3)
	w.decides(-1)
	w.runs(-1)
	for i := range 100 {
		w.drop(w.add(1, 2))
		w.drop(w.add(2, 3, 1))
		w.drop(w.add(1))
		if i%10 == 0 {
			w.runs(-1)
		}
	}
	n := w.add(1, 3)
	w.runs(-1, 3)
	w.back(0)
	w.drop(n)
	w.decides(-1)
	w.runs(-1)
}

func TestNoMoreIsKeptOfWhatWasDropped(t *testing.T) {
	p, _ := New(api.Cnf{Vars: 3})
	p.Decide(-1)
	for range 1000 {
		for _, c := range [][]int{{1, 2}, {2, 3}, {1}, {3}} {
			n, _ := p.Add(c)
			p.Drop(n)
		}
	}
	kept := len(p.late)
	for _, list := range p.watches {
		kept += len(list)
	}
	if kept > 100 {
		t.Errorf("%d places in lists, of no clause", kept)
	}
}

func TestGreatestVariablesAndWidestClause(t *testing.T) {
	p, e := New(api.Cnf{Vars: top, Clauses: [][]int{{-top, top - 1}, wide(1, api.MaxWide)}})
	if e != api.OK {
		t.Fatal(e)
	}
	if p.Decide(top) != api.OK || p.Run() != -1 || !slices.Equal(p.Trail(), []int{top, top - 1}) {
		t.Errorf("the trail is %v", p.Trail())
	}
	for v := 1; v < api.MaxWide; v++ {
		if p.Decide(-v) != api.OK || p.Run() != -1 {
			t.Fatalf("Decide(%d), Run", -v)
		}
	}
	if p.Value(api.MaxWide) != 1 || p.Reason(api.MaxWide) != 1 || p.Level(api.MaxWide) != api.MaxWide || p.Levels() != api.MaxWide {
		t.Error("the last of the widest clause")
	}
	if n, e := p.Add(wide(top-api.MaxWide+1, api.MaxWide)); n != 2 || e != api.OK {
		t.Errorf("Add: %d, %d", n, e)
	}
	p.Back(1)
	if !slices.Equal(p.Trail(), []int{top, top - 1}) || p.Run() != -1 {
		t.Error("Back")
	}
}

func TestLongChain(t *testing.T) {
	const long = api.MaxClauses + 1
	p, e := New(chain(long))
	if e != api.OK {
		t.Fatal(e)
	}
	for range 3 {
		if p.Decide(1) != api.OK || p.Run() != -1 || !slices.Equal(p.Trail(), wide(1, long)) || p.Reason(long) != long-2 {
			t.Error("forwards")
		}
		p.Back(0)
		if p.Decide(-long) != api.OK || p.Run() != -1 || len(p.Trail()) != long || p.Value(1) != -1 {
			t.Error("backwards")
		}
		p.Back(0)
		if p.Decide(1) != api.OK || p.Decide(-long) != api.OK || p.Run() < 0 {
			t.Error("from both ends")
		}
		p.Back(-1)
	}
}

// numbers is a row of numbers, the same for each seed.
type numbers uint32

// pick is the next one, below n.
func (r *numbers) pick(n int) int {
	*r = *r*1664525 + 1013904223
	return int(*r>>16) % n
}

// literal is one of a variable up to vars.
func (r *numbers) literal(vars int) int {
	return (1 + r.pick(vars)) * (1 - 2*r.pick(2))
}

// clause is one of at most so many literals.
func (r *numbers) clause(vars, most int) []int {
	c := make([]int, r.pick(most)+1)
	for i := range c {
		c[i] = r.literal(vars)
	}
	return c
}

// wander asks this and that of a twin, so often.
func wander(w *twin, r *numbers, most, steps int) {
	w.t.Helper()
	for range steps {
		switch k := r.pick(20); {
		case k < 6:
			w.decide(r.literal(w.vars))
		case k < 12:
			// Else one that is broken ahead of all decisions would be told for ever.
			if n := w.run(); n >= 0 && w.p.Levels() == 0 {
				w.drop(n)
			}
		case k < 15:
			w.back(r.pick(w.p.Levels()+3) - 1)
		case k < 17:
			w.add(r.clause(w.vars, most)...)
		case k < 18 && r.pick(12) == 0:
			w.add()
		default:
			w.drop(r.pick(len(w.clauses) + 1))
		}
	}
}

func TestAgainstAPlainPropagator(t *testing.T) {
	for seed := range 600 {
		r := numbers(seed)
		vars := 1 + r.pick(6)
		w := made(t, vars)
		for range r.pick(8) {
			w.add(r.clause(vars, 4)...)
		}
		wander(w, &r, 4, 200)
	}
}

func TestAgainstAPlainPropagatorOfMoreVariables(t *testing.T) {
	for seed := range 60 {
		r := numbers(seed + 1000)
		vars := 12 + r.pick(20)
		var clauses [][]int
		for range 3 * vars {
			// Of two and more: else all follows, or is broken, at once.
			clauses = append(clauses, append(r.clause(vars, 4), r.literal(vars)))
		}
		w := made(t, vars, clauses...)
		wander(w, &r, 6, 250)
	}
}

// asked is what may be asked of a twin of three variables, one by one.
func asked() []func(*twin) {
	return []func(*twin){
		func(w *twin) { w.decide(1) },
		func(w *twin) { w.decide(-2) },
		func(w *twin) { w.decide(3) },
		func(w *twin) { w.run() },
		func(w *twin) { w.back(0) },
		func(w *twin) { w.back(1) },
		func(w *twin) { w.add(2, -1) },
		func(w *twin) { w.add(-3, 2, -1) },
		func(w *twin) { w.add(2) },
		func(w *twin) { w.drop(len(w.clauses) - 1) },
	}
}

func TestAllShortRowsOfCalls(t *testing.T) {
	const long = 5
	ask := asked()
	rows := 1
	for range long {
		rows *= len(ask)
	}
	for row := range rows {
		w := made(t, 3, []int{-1, 2, -3})
		for rest := row; len(w.log) <= long; rest /= len(ask) {
			ask[rest%len(ask)](w)
		}
		w.run()
		w.back(1)
		w.run()
	}
}

// nobodys fails unless this is a propagator that New did not give.
func nobodys(t *testing.T, p *Prop) {
	t.Helper()
	for _, c := range [][]int{nil, {}, {1}, {-1, 2}, {0}, {top + 1}} {
		if n, e := p.Add(c); n != 0 || e != api.ErrArg {
			t.Errorf("Add(%v): %d, %d", c, n, e)
		}
	}
	for _, i := range []int{math.MinInt, -1, 0, 1, math.MaxInt} {
		if e := p.Drop(i); e != api.ErrNone {
			t.Errorf("Drop(%d): %d", i, e)
		}
		if c, ok := p.Clause(i); c != nil || ok {
			t.Errorf("Clause(%d): %v, %v", i, c, ok)
		}
		if e := p.Decide(i); e != api.ErrArg {
			t.Errorf("Decide(%d): %d", i, e)
		}
		p.Back(i)
		if p.Value(i) != 0 || p.Level(i) != -1 || p.Reason(i) != -1 {
			t.Errorf("of %d: %d, %d, %d", i, p.Value(i), p.Level(i), p.Reason(i))
		}
	}
	if n := p.Run(); n != -1 {
		t.Errorf("Run() = %d", n)
	}
	if p.Levels() != 0 || p.Trail() != nil {
		t.Errorf("%d levels, the trail %v", p.Levels(), p.Trail())
	}
}

func TestOfAPropThatNewDidNotGive(t *testing.T) {
	nobodys(t, nil)
	nobodys(t, &Prop{})
	nobodys(t, new(Prop))
	w := made(t, 3, []int{-1, 2}, []int{})
	w.decides(1)
	w.run()
	twin := *w.p
	nobodys(t, &twin)
	w.drop(1)
	w.runs(1, 2)
	nobodys(t, &twin)
	w.back(0)
	w.runs()
}

func TestNothingHandedInIsWrittenToOrKept(t *testing.T) {
	first := append(make([]int, 0, 4), 3, -1, 2)
	f := api.Cnf{Vars: 3, Clauses: [][]int{first, {-3, 1}}}
	p, _ := New(f)
	c := append(make([]int, 0, 4), -2, 1, 3)
	p.Add(c)
	for _, l := range []int{1, -3} {
		p.Decide(l)
		p.Run()
	}
	p.Back(0)
	p.Drop(1)
	if !slices.Equal(first[:4], []int{3, -1, 2, 0}) || !slices.Equal(f.Clauses[1], []int{-3, 1}) || !slices.Equal(c[:4], []int{-2, 1, 3, 0}) || f.Vars != 3 {
		t.Error("a clause was written to")
	}
	first[0], c[0] = 1, 1
	f.Clauses[0] = nil
	for i, want := range [][]int{{3, -1, 2}, nil, {-2, 1, 3}} {
		if got, ok := p.Clause(i); !slices.Equal(got, want) || ok != (want != nil) {
			t.Errorf("Clause(%d) = %v, %v", i, got, ok)
		}
	}
	p.Decide(1)
	p.Decide(-2)
	if p.Run() != -1 || p.Value(3) != 1 {
		t.Error("the clauses are those that were handed in")
	}
}

func TestAnswersAreNewMemory(t *testing.T) {
	w := made(t, 3, []int{-1, 2}, []int{-2, 3})
	w.decides(1)
	w.runs(1, 2, 3)
	spoil := func(l []int) {
		l = l[:cap(l)]
		for i := range l {
			l[i] = 99
		}
	}
	spoil(w.p.Trail())
	c, _ := w.p.Clause(0)
	spoil(c)
	c, _ = w.p.Clause(1)
	spoil(c)
	w.sound()
	w.runs(1, 2, 3)
	w.back(0)
	spoil(w.p.Trail())
	w.decides(1)
	w.runs(1, 2, 3)
}
