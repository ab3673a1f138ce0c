package rup

import (
	"fmt"
	"math"
	"slices"
	"testing"

	"fathom/api"
	"fathom/lit"
)

const top = api.MaxVar

// four is the formula of the chapter's example: no model makes it hold, but units alone do not tell.
func four() api.Cnf {
	return cnf(2, []int{1, 2}, []int{-1, 2}, []int{1, -2}, []int{-1, -2})
}

// cnf is a formula.
func cnf(vars int, clauses ...[]int) api.Cnf {
	return api.Cnf{Vars: vars, Clauses: clauses}
}

// follows is a step that follows.
func follows(literals ...int) api.Step {
	return api.Step{Lits: literals}
}

// goes is a step that goes.
func goes(literals ...int) api.Step {
	return api.Step{Del: true, Lits: literals}
}

// wide is a clause of n literals, of the variables from first on.
func wide(first, n int) []int {
	c := make([]int, n)
	for i := range c {
		c[i] = first + i
	}
	return c
}

// many is n times a clause.
func many(n int, c ...int) [][]int {
	l := make([][]int, n)
	for i := range l {
		l[i] = slices.Clone(c)
	}
	return l
}

// copied is a copy of a formula.
func copied(f api.Cnf) api.Cnf {
	g := api.Cnf{Vars: f.Vars}
	for _, c := range f.Clauses {
		g.Clauses = append(g.Clauses, slices.Clone(c))
	}
	return g
}

// plainUnit goes through the clauses again and again, until nothing more follows.
func plainUnit(f api.Cnf, c []int) bool {
	value := map[int]int{}
	for _, l := range c {
		if value[l] == 1 {
			return true // a tautology
		}
		value[l], value[-l] = -1, 1
	}
	for turned := true; turned; {
		turned = false
		for _, d := range f.Clauses {
			open := map[int]bool{}
			isTrue := false
			for _, l := range d {
				isTrue = isTrue || value[l] == 1
				if value[l] == 0 {
					open[l] = true
				}
			}
			if isTrue || len(open) > 1 {
				continue
			}
			if len(open) == 0 {
				return true
			}
			for l := range open {
				value[l], value[-l] = 1, -1
				turned = true
			}
		}
	}
	return false
}

// plainFirst is what the chapter's words say, one by one.
func plainFirst(f api.Cnf, c []int) bool {
	if len(c) == 0 {
		return false
	}
	for _, d := range f.Clauses {
		if !slices.Contains(d, -c[0]) {
			continue
		}
		both := slices.Clone(c)
		for _, l := range d {
			if l != -c[0] {
				both = append(both, l)
			}
		}
		if len(both) > api.MaxWide || !plainUnit(f, both) {
			return false
		}
	}
	return true
}

// plainDo is what the chapter's words say of a step of a clause, of a formula.
func plainDo(f api.Cnf, s api.Step) (api.Cnf, api.Errno) {
	g := copied(f)
	if s.Del {
		for i, c := range g.Clauses {
			if lit.Within(c, s.Lits) && lit.Within(s.Lits, c) {
				g.Clauses = slices.Delete(g.Clauses, i, i+1)
				break
			}
		}
		return g, api.OK
	}
	if !plainUnit(f, s.Lits) && !plainFirst(f, s.Lits) {
		return g, api.ErrBad
	}
	g.Clauses = append(g.Clauses, slices.Clone(s.Lits))
	for _, l := range s.Lits {
		g.Vars = max(g.Vars, l, -l)
	}
	return g, api.OK
}

// plainProves is what the chapter's words say of a proof, of a formula.
func plainProves(f api.Cnf, l []api.Step) (int, api.Errno) {
	for i, s := range l {
		g, e := plainDo(f, s)
		if e != api.OK {
			return i, e
		}
		if !s.Del && len(s.Lits) == 0 {
			return i, api.OK
		}
		f = g
	}
	return len(l), api.ErrNone
}

// models is all models of so many variables, none open, by which a formula holds.
func models(f api.Cnf, vars int) [][]int {
	var all [][]int
	for bits := range 1 << vars {
		m := make([]int, vars)
		for v := range m {
			m[v] = 1 - 2*(bits>>v&1)
		}
		if lit.Holds(f, m) {
			all = append(all, m)
		}
	}
	return all
}

// asks fails unless Unit and First tell so, and both what the plain ways do.
func asks(t *testing.T, f api.Cnf, c []int, unit, first bool) {
	t.Helper()
	if u := Unit(f, c); u != unit || u != plainUnit(f, c) {
		t.Errorf("Unit(%v, %v): %v; not %v, the plain way %v", f, c, u, unit, plainUnit(f, c))
	}
	if r := First(f, c); r != first || r != plainFirst(f, c) {
		t.Errorf("First(%v, %v): %v; not %v, the plain way %v", f, c, r, first, plainFirst(f, c))
	}
}

// does fails unless Do tells this formula, and this error.
func does(t *testing.T, f api.Cnf, s api.Step, want api.Cnf, wantE api.Errno) {
	t.Helper()
	g, e := Do(f, s)
	if e != wantE || !lit.Same(g, want) {
		t.Errorf("Do(%v, %v): %v, %d; not %v, %d", f, s, g, e, want, wantE)
	}
}

// proves fails unless Proves tells this place, and this error.
func proves(t *testing.T, f api.Cnf, l []api.Step, want int, wantE api.Errno) {
	t.Helper()
	n, e := Proves(f, l)
	if n != want || e != wantE {
		t.Errorf("Proves(%v, %v): %d, %d; not %d, %d", f, l, n, e, want, wantE)
	}
}

func TestExample(t *testing.T) {
	proves(t, four(), []api.Step{follows(2), follows()}, 1, api.OK)
	proves(t, four(), []api.Step{follows()}, 0, api.ErrBad)
	asks(t, four(), []int{2}, true, true)
	asks(t, four(), nil, false, false)
	if Broken(four()) {
		t.Error("Broken")
	}
}

func TestUnit(t *testing.T) {
	f := cnf(5, []int{-1, 2}, []int{-2, 3}, []int{-3, -4, 5})
	asks(t, f, []int{-1, 3}, true, true)
	asks(t, f, []int{3, -1}, true, true)
	asks(t, f, []int{-1, 3, 4}, true, true)
	asks(t, f, []int{-1, 4}, false, true)
	asks(t, f, []int{-1, -4, 5}, true, true)
	asks(t, f, []int{-1, 5}, false, true)
	asks(t, f, []int{1, 3}, false, false)
	asks(t, f, []int{3}, false, false)
	asks(t, f, []int{-2, 3}, true, true)
	asks(t, f, []int{2}, false, false)
}

func TestUnitWhereClausesAreUnitWithoutAQuestion(t *testing.T) {
	f := cnf(4, []int{1}, []int{-1, 2}, []int{-2, 3, 4})
	asks(t, f, []int{2}, true, true)
	asks(t, f, []int{1}, true, true)
	asks(t, f, []int{-1}, false, false)
	asks(t, f, []int{-1, 3}, false, false)
	asks(t, f, []int{3, 4}, true, true)
	asks(t, f, []int{4, -2}, false, true)
	asks(t, f, nil, false, false)
}

func TestNoVariableAndNoClause(t *testing.T) {
	asks(t, api.Cnf{}, nil, false, false)
	asks(t, api.Cnf{}, []int{}, false, false)
	asks(t, api.Cnf{}, []int{1}, false, true)
	asks(t, cnf(3), nil, false, false)
	asks(t, cnf(3), []int{-2}, false, true)
	if Broken(api.Cnf{}) || Broken(cnf(3)) {
		t.Error("Broken of no clause")
	}
	does(t, api.Cnf{}, follows(), api.Cnf{}, api.ErrBad)
	does(t, api.Cnf{}, goes(), api.Cnf{}, api.OK)
	does(t, api.Cnf{}, goes(1), api.Cnf{}, api.OK)
	does(t, api.Cnf{}, follows(2), cnf(2, []int{2}), api.OK)
	proves(t, api.Cnf{}, nil, 0, api.ErrNone)
	proves(t, api.Cnf{}, []api.Step{follows()}, 0, api.ErrBad)
	proves(t, api.Cnf{}, []api.Step{goes()}, 1, api.ErrNone)
}

func TestEmptyClause(t *testing.T) {
	asks(t, cnf(2, []int{1}), nil, false, false)
	asks(t, cnf(2, []int{1}, []int{-1}), nil, true, false)
	asks(t, cnf(2, []int{1}, []int{-1}), []int{2}, true, true)
	asks(t, cnf(0, []int{}), nil, true, false)
	asks(t, cnf(0, nil), []int{3}, true, true)
	asks(t, cnf(2, []int{1, 2}, nil), []int{-1}, true, true)
	for _, f := range []api.Cnf{cnf(0, nil), cnf(1, []int{1}, []int{}), cnf(1, []int{1}, []int{-1}), cnf(2, []int{1, 2}, []int{-2}, []int{-1, 2})} {
		if !Broken(f) {
			t.Errorf("Broken(%v)", f)
		}
		proves(t, f, []api.Step{follows()}, 0, api.OK)
		if g, e := Do(f, follows()); e != api.OK || len(g.Clauses) != len(f.Clauses)+1 || len(g.Clauses[len(f.Clauses)]) != 0 {
			t.Errorf("Do of the empty clause: %v, %d", g, e)
		}
	}
	// The empty clause goes as every other one does.
	does(t, cnf(1, nil, []int{1}, []int{}), goes(), cnf(1, []int{1}, nil), api.OK)
	proves(t, cnf(1, nil, []int{1}), []api.Step{goes(), follows()}, 1, api.ErrBad)
	proves(t, cnf(1, nil, []int{1}, nil), []api.Step{goes(), follows()}, 1, api.OK)
}

func TestTautology(t *testing.T) {
	asks(t, api.Cnf{}, []int{1, -1}, true, true)
	asks(t, cnf(3, []int{1}, []int{2, 3}), []int{-2, 3, 2}, true, true)
	asks(t, cnf(3, []int{-1, 2}, []int{1, 3}), []int{1, -1}, true, true)
	asks(t, cnf(3, []int{-1, 2}, []int{1, 3}), []int{-1, 3, 1}, true, true)
	// Its literals are open, false, true by what follows: it is one all the same.
	asks(t, cnf(3, []int{-1}, []int{1, 2}), []int{1, -1}, true, true)
	asks(t, cnf(3, []int{-1}, []int{1, 2}), []int{-1, 1}, true, true)
	// One of the formula says nothing.
	asks(t, cnf(2, []int{1, -1, 2}), []int{1}, false, false)
	asks(t, cnf(2, []int{1, -1}), []int{1}, false, false)
	asks(t, cnf(2, []int{1, -1}), nil, false, false)
	does(t, cnf(1), follows(2, -2), cnf(2, []int{2, -2}), api.OK)
}

func TestLiteralThatStandsMoreThanOnce(t *testing.T) {
	asks(t, cnf(2, []int{-1, 2}), []int{2, -1, 2, -1}, true, true)
	asks(t, cnf(2, []int{-1, 2}), []int{2, 2}, false, true)
	asks(t, cnf(2, []int{-1, 2, -1}, []int{1, 1}), []int{2}, true, true)
	asks(t, cnf(2, []int{1, 1}, []int{-1, -1, -1}), nil, true, false)
	does(t, cnf(2, []int{1, 1}), follows(2, 2, 1), cnf(2, []int{1, 1}, []int{2, 2, 1}), api.OK)
}

func TestVariableThatTheFormulaHasNot(t *testing.T) {
	f := cnf(2, []int{-1, 2}, []int{1})
	asks(t, f, []int{2, 7}, true, true)
	asks(t, f, []int{-7, 2}, true, true)
	asks(t, f, []int{7}, false, true)
	asks(t, f, []int{7, -1}, false, true)
	asks(t, f, []int{-1, 7}, false, false)
	asks(t, f, []int{top}, false, true)
	asks(t, f, []int{2, -top}, true, true)
	asks(t, f, []int{-1, -top}, false, false)
}

func TestFirstLiteralAlone(t *testing.T) {
	// 3 is new: nothing has its negation.
	f := cnf(3, []int{1, 2})
	asks(t, f, []int{3, -1}, false, true)
	asks(t, f, []int{3, 1, 2}, true, true)
	asks(t, f, []int{-1, 3}, false, false)
	asks(t, f, []int{-3}, false, true)
	// One that stands for the "and" of two others.
	and := cnf(4, []int{-1, -2, 3}, []int{1, 2, 4}, []int{3, -4})
	and, _ = Do(and, follows(5, -1, -2))
	asks(t, and, []int{-5, 1}, false, true)
	asks(t, and, []int{1, -5}, false, false)
	and, _ = Do(and, follows(-5, 1))
	asks(t, and, []int{-5, 2}, false, true)
	asks(t, and, []int{2, -5}, false, false)
	and, e := Do(and, follows(-5, 2))
	if want := cnf(5, []int{-1, -2, 3}, []int{1, 2, 4}, []int{3, -4}, []int{5, -1, -2}, []int{-5, 1}, []int{-5, 2}); e != api.OK || !lit.Same(and, want) {
		t.Errorf("%v, %d", and, e)
	}
}

func TestFirstLiteralOfAnotherOrder(t *testing.T) {
	f := cnf(3, []int{-1, 3}, []int{2, 3})
	asks(t, f, []int{1, -3}, false, true)
	asks(t, f, []int{-3, 1}, false, false)
	asks(t, f, []int{2, -3}, false, true)
	asks(t, f, []int{-3, 2}, false, false)
	asks(t, f, []int{1, 2, -3}, false, true)
	asks(t, f, []int{-3, 1, 2}, false, false)
	asks(t, f, []int{-3, 1, -2}, false, true)
	does(t, f, follows(1, -3), cnf(3, []int{-1, 3}, []int{2, 3}, []int{1, -3}), api.OK)
	does(t, f, follows(-3, 1), f, api.ErrBad)
}

func TestFirstOfMoreClausesThanOne(t *testing.T) {
	// Of each one it must be at hand, of the last one too.
	f := cnf(5, []int{-1, 2}, []int{-1, 3}, []int{-2, 4}, []int{-3, 5}, []int{1, 5})
	asks(t, f, []int{1, -2, -3}, false, true)
	asks(t, f, []int{1, -2}, false, false)
	asks(t, f, []int{1, -3}, false, false)
	asks(t, f, []int{1}, false, false)
	asks(t, f, []int{1, -4, -5}, false, false)
	asks(t, f, []int{4, -2, -5}, true, true)
}

func TestFirstLiteralWhoseNegationStandsMoreThanOnce(t *testing.T) {
	asks(t, cnf(2, []int{-1, -1}), []int{1}, false, false)
	asks(t, cnf(2, []int{-1, -1, 2, -1}), []int{1, -2}, false, true)
	asks(t, cnf(2, []int{-1, 2, -1}), []int{1}, false, false)
	asks(t, cnf(3, []int{-1, 2, -1, 3}, []int{1, 2, 3, 2}), []int{1}, false, true)
	asks(t, cnf(3, []int{-1, 2, -1, 3}, []int{2, 3, 2}), []int{1}, false, true)
	asks(t, cnf(2, []int{-1, -1, 1}), []int{1}, false, false)
}

func TestFirstOfAClauseThatWouldBeTooWide(t *testing.T) {
	// Of the clause -1, 2 .. n the others are left; with 1, and what stands behind it, they are so many.
	for _, of := range []struct {
		left, own int
		first     bool
	}{
		{4095, 1, true}, {4094, 2, true}, {4095, 2, false}, {1, 4095, true}, {1, 4096, false}, {2048, 2048, true}, {2048, 2049, false},
	} {
		// 2 is left, and true: so both together are at hand.
		f := cnf(10000, append([]int{-1}, wide(2, of.left)...), []int{2})
		c := append([]int{1}, wide(5000, of.own-1)...)
		asks(t, f, c, false, of.first)
		if of.first {
			does(t, f, api.Step{Lits: c}, cnf(10000, f.Clauses[0], f.Clauses[1], c), api.OK)
		} else {
			does(t, f, api.Step{Lits: c}, f, api.ErrBad)
		}
	}
	asks(t, cnf(10000, []int{-1}, []int{5000}), append([]int{1}, wide(5000, 4095)...), true, true)
	// What is at hand by units is at hand, however wide; but not by its first literal.
	f := cnf(10000, append([]int{-1}, wide(2, 4095)...), []int{5001})
	asks(t, f, []int{1, 5001}, true, false)
	asks(t, f, []int{5001, 1}, true, true)
	does(t, f, follows(1, 5001), cnf(10000, f.Clauses[0], f.Clauses[1], []int{1, 5001}), api.OK)
	// Literals are counted as they stand, p's negation never.
	f = cnf(2, append(slices.Repeat([]int{-1}, 4001), slices.Repeat([]int{2}, 90)...), []int{2})
	asks(t, f, slices.Repeat([]int{1}, 4006), false, true)
	asks(t, f, slices.Repeat([]int{1}, 4007), false, false)
	does(t, f, api.Step{Lits: slices.Repeat([]int{1}, 4007)}, f, api.ErrBad)
}

func TestStepThatGoes(t *testing.T) {
	f := cnf(4, []int{1, 2}, []int{-3}, []int{2, 1}, []int{1, 2, 3}, []int{1, 1, 2})
	does(t, f, goes(-3), cnf(4, []int{1, 2}, []int{2, 1}, []int{1, 2, 3}, []int{1, 1, 2}), api.OK)
	does(t, f, goes(1, 2), cnf(4, []int{-3}, []int{2, 1}, []int{1, 2, 3}, []int{1, 1, 2}), api.OK)
	does(t, f, goes(2, 1), cnf(4, []int{-3}, []int{2, 1}, []int{1, 2, 3}, []int{1, 1, 2}), api.OK)
	does(t, f, goes(2, 1, 2, 2), cnf(4, []int{-3}, []int{2, 1}, []int{1, 2, 3}, []int{1, 1, 2}), api.OK)
	does(t, f, goes(3, 1, 2), cnf(4, []int{1, 2}, []int{-3}, []int{2, 1}, []int{1, 1, 2}), api.OK)
	// None is there.
	does(t, f, goes(3), f, api.OK)
	does(t, f, goes(1), f, api.OK)
	does(t, f, goes(), f, api.OK)
	does(t, f, goes(1, 2, 3, 4), f, api.OK)
	does(t, f, goes(-1, -2), f, api.OK)
	// A variable that is not there does not come by it.
	does(t, f, goes(9), f, api.OK)
	does(t, f, goes(-top), f, api.OK)
	// All that are like it, one by one, the first one first.
	g, _ := Do(f, goes(2, 1))
	g, _ = Do(g, goes(2, 1))
	does(t, g, goes(1, 2), cnf(4, []int{-3}, []int{1, 2, 3}), api.OK)
	g, _ = Do(g, goes(2, 1))
	does(t, g, goes(1, 2), g, api.OK)
	// Tautologies, too.
	does(t, cnf(2, []int{1, -1}, []int{-1, 1, 2}), goes(-1, 1), cnf(2, []int{-1, 1, 2}), api.OK)
}

func TestStepThatGoesOfGreatVariables(t *testing.T) {
	// None of these clauses is like another one.
	f := api.Cnf{Vars: top}
	for bit := 1; bit <= top; bit *= 2 {
		f.Clauses = append(f.Clauses, []int{bit}, []int{-bit}, []int{-bit, 7, 3 * (1 + bit/4)})
	}
	for i, c := range f.Clauses {
		left := slices.Delete(slices.Clone(f.Clauses), i, i+1)
		if g, e := Do(f, api.Step{Del: true, Lits: c}); e != api.OK || !lit.Same(g, cnf(top, left...)) {
			t.Errorf("clause %d, %v, goes: %v, %d", i, c, g, e)
		}
	}
}

func TestStepThatGoesInAProof(t *testing.T) {
	one := cnf(2, []int{1}, []int{-1, 2}, []int{-2})
	twice := cnf(2, []int{1}, []int{-1, 2}, []int{2, -1, 2}, []int{-2})
	last := []api.Step{goes(2, -1), follows()}
	proves(t, one, last, 1, api.ErrBad)
	proves(t, twice, last, 1, api.OK)
	proves(t, twice, append([]api.Step{goes(2, 2, -1)}, last...), 2, api.ErrBad)
	proves(t, twice, append([]api.Step{goes(2, 2, -1), goes(-1, 2), goes(-1, 2)}, follows()), 3, api.ErrBad)
	proves(t, one, []api.Step{goes(2, 1), goes(2), follows()}, 2, api.OK)
	// What goes may have followed ahead.
	proves(t, four(), []api.Step{follows(2), goes(2), follows()}, 2, api.ErrBad)
	proves(t, four(), []api.Step{follows(2), follows(2, 2), goes(2), follows()}, 3, api.OK)
	proves(t, four(), []api.Step{follows(2), goes(2), follows(2), follows()}, 3, api.OK)
	// By which clause a unit followed does not matter, while another one tells the same.
	f := cnf(3, []int{1}, []int{-1, 2}, []int{1, 1}, []int{-2, 3}, []int{-2, -3})
	proves(t, f, []api.Step{follows(3), goes(1), follows()}, 2, api.OK)
	proves(t, f, []api.Step{follows(2), goes(1), goes(1), goes(-1, 2), follows()}, 4, api.OK)
	proves(t, f, []api.Step{follows(2), goes(1), goes(1), goes(2), follows()}, 4, api.ErrBad)
	// One that is broken goes, and what is broken behind it is told.
	proves(t, cnf(2, []int{1}, []int{-1}, []int{2}, []int{-2}), []api.Step{follows(2), goes(-1), follows()}, 2, api.OK)
	proves(t, cnf(2, []int{1}, []int{-1}, []int{2}, []int{-2}), []api.Step{follows(1), goes(-1), goes(-2), follows()}, 3, api.ErrBad)
}

func TestGoneClausesDoNotCountForTheFirstLiteral(t *testing.T) {
	f := cnf(3, []int{-1, 2}, []int{-1, 3})
	proves(t, f, []api.Step{follows(1)}, 0, api.ErrBad)
	proves(t, f, []api.Step{goes(-1, 2), follows(1)}, 1, api.ErrBad)
	proves(t, f, []api.Step{goes(-1, 2), goes(3, -1), follows(1)}, 3, api.ErrNone)
	// Also where another one's first literal was asked for ahead, and clauses came and went since.
	ahead := []api.Step{follows(4, 2), goes(-1, 2), goes(3, -1), follows(5, -1)}
	proves(t, f, append(ahead[:3:3], follows(1)), 4, api.ErrNone)
	proves(t, f, append(ahead[:4:4], follows(1)), 4, api.ErrBad)
	proves(t, f, append(ahead[:4:4], goes(-1, 5), follows(1)), 6, api.ErrNone)
	proves(t, f, append(ahead[:4:4], follows(5), goes(-1, 5), follows(6, -1), goes(-1, 6), follows(1), follows(-1)), 9, api.ErrBad)
}

func TestStepThatFollowsWithAGreaterVariable(t *testing.T) {
	f := cnf(2, []int{1}, []int{-1, 2})
	does(t, f, follows(2, 7), cnf(7, []int{1}, []int{-1, 2}, []int{2, 7}), api.OK)
	does(t, f, follows(-9), cnf(9, []int{1}, []int{-1, 2}, []int{-9}), api.OK)
	does(t, f, follows(-9, 2, 4), cnf(9, []int{1}, []int{-1, 2}, []int{-9, 2, 4}), api.OK)
	does(t, f, follows(top), cnf(top, []int{1}, []int{-1, 2}, []int{top}), api.OK)
	does(t, f, follows(-1, 9), f, api.ErrBad)
	does(t, f, follows(2), cnf(2, []int{1}, []int{-1, 2}, []int{2}), api.OK)
	does(t, cnf(5, []int{1}), follows(1, 3), cnf(5, []int{1}, []int{1, 3}), api.OK)
	proves(t, four(), []api.Step{follows(8), follows(-8, 2), follows()}, 2, api.OK)
	proves(t, four(), []api.Step{follows(-top), follows(2, top), follows()}, 2, api.OK)
	proves(t, four(), []api.Step{follows(-top), follows(top), follows()}, 1, api.ErrBad)
}

func TestProofsThatProve(t *testing.T) {
	broken := cnf(2, []int{1}, []int{-1})
	proves(t, broken, []api.Step{follows()}, 0, api.OK)
	proves(t, broken, []api.Step{follows(), follows(2), follows()}, 0, api.OK)
	proves(t, four(), []api.Step{follows(2), follows(), follows(1)}, 1, api.OK)
	proves(t, four(), []api.Step{follows(2), goes(1, 2), follows(1), follows()}, 3, api.OK)
	// Wrong steps behind it are not looked at.
	proves(t, four(), []api.Step{follows(2), follows(), follows(3, -3), goes(7), goes(-1, 2), follows()}, 1, api.OK)
	proves(t, broken, []api.Step{follows(), goes(1), follows()}, 0, api.OK)
	// A step without literals that goes proves nothing.
	proves(t, four(), []api.Step{goes(), follows(2), goes(), follows()}, 3, api.OK)
	proves(t, four(), []api.Step{follows(2), goes()}, 2, api.ErrNone)
}

func TestProofsThatDoNotProve(t *testing.T) {
	proves(t, four(), nil, 0, api.ErrNone)
	proves(t, four(), []api.Step{}, 0, api.ErrNone)
	proves(t, cnf(1, []int{1}, []int{-1}), nil, 0, api.ErrNone)
	proves(t, four(), []api.Step{follows(2)}, 1, api.ErrNone)
	proves(t, four(), []api.Step{follows(2), follows(1), goes(2)}, 3, api.ErrNone)
	f := cnf(3, []int{1, 2}, []int{-1, 2}, []int{1, -2}, []int{1, 3})
	proves(t, f, []api.Step{follows(-1), follows(2), follows()}, 0, api.ErrBad)
	proves(t, f, []api.Step{follows(2), follows(-2), follows(1)}, 1, api.ErrBad)
	proves(t, f, []api.Step{follows(2), follows(1), follows()}, 2, api.ErrBad)
	proves(t, f, []api.Step{follows(), follows(2)}, 0, api.ErrBad)
}

func TestMostClauses(t *testing.T) {
	f := cnf(2, many(api.MaxClauses-1, 1, 2)...)
	f.Clauses[0] = []int{-1}
	g, e := Do(f, follows(2))
	if e != api.OK || g.Vars != 2 || len(g.Clauses) != api.MaxClauses || !slices.Equal(g.Clauses[api.MaxClauses-1], []int{2}) {
		t.Fatalf("%d clauses, %d", len(g.Clauses), e)
	}
	// One more: whether it is at hand or not.
	does(t, g, follows(2), api.Cnf{}, api.ErrLong)
	does(t, g, follows(1), api.Cnf{}, api.ErrLong)
	does(t, g, follows(), api.Cnf{}, api.ErrLong)
	h, e := Do(g, goes(2))
	if e != api.OK || !lit.Same(h, f) {
		t.Errorf("%d clauses, %d", len(h.Clauses), e)
	}
	if h, e := Do(g, goes(1)); e != api.OK || !lit.Same(h, g) {
		t.Errorf("%d clauses, %d", len(h.Clauses), e)
	}
	if !Unit(g, []int{2}) || !First(g, []int{2}) || Unit(g, []int{1}) || First(g, []int{1}) || Broken(g) {
		t.Error("what is at hand")
	}
	end := []api.Step{follows(2), follows(1)}
	for _, of := range []struct {
		place int
		e     api.Errno
		ahead []api.Step
	}{
		{1, api.ErrLong, nil},
		{2, api.ErrLong, []api.Step{goes(2)}},
		{2, api.ErrBad, []api.Step{goes(2, 1)}},
		{3, api.ErrNone, []api.Step{goes(-1)}},
	} {
		if n, e := Proves(f, append(of.ahead, end...)); n != of.place || e != of.e {
			t.Errorf("Proves behind %v: %d, %d; not %d, %d", of.ahead, n, e, of.place, of.e)
		}
	}
	g.Clauses[1] = nil
	if n, e := Proves(g, []api.Step{follows()}); n != 0 || e != api.ErrLong || !Broken(g) {
		t.Errorf("Proves of a broken one without room: %d, %d", n, e)
	}
	if n, e := Proves(g, []api.Step{goes(1, 2), follows(1), follows()}); n != 2 || e != api.ErrLong {
		t.Errorf("Proves of a broken one with room for one: %d, %d", n, e)
	}
	if n, e := Proves(g, []api.Step{goes(1, 2), follows()}); n != 1 || e != api.OK {
		t.Errorf("Proves of a broken one with room: %d, %d", n, e)
	}
}

// notFormulas is what is no formula.
func notFormulas() []api.Cnf {
	return []api.Cnf{
		cnf(-1),
		cnf(math.MinInt),
		cnf(top + 1),
		cnf(math.MaxInt),
		cnf(2, []int{1}, []int{0}),
		cnf(2, []int{1, 3}),
		cnf(2, []int{-3}),
		cnf(top, []int{math.MinInt}),
		cnf(top, []int{math.MaxInt}),
		cnf(api.MaxWide+1, wide(1, api.MaxWide+1)),
		{Vars: 1, Clauses: make([][]int, api.MaxClauses+1)},
	}
}

// notClauses is what is no clause.
func notClauses() [][]int {
	return [][]int{{0}, {1, 0}, {0, 1, -1}, {top + 1}, {1, -top - 1}, {math.MinInt}, {1, math.MaxInt}, wide(1, api.MaxWide+1), slices.Repeat([]int{1}, api.MaxWide+1)}
}

func TestWhatIsNoFormula(t *testing.T) {
	for i, f := range notFormulas() {
		for _, c := range append(notClauses(), nil, []int{1}, []int{1, -1}) {
			if Unit(f, c) || First(f, c) {
				t.Errorf("no formula %d: something is at hand", i)
			}
			for _, s := range []api.Step{{Lits: c}, {Del: true, Lits: c}} {
				if g, e := Do(f, s); e != api.ErrArg || !lit.Same(g, api.Cnf{}) || g.Clauses != nil {
					t.Errorf("no formula %d: Do: %d, of %d clauses", i, e, len(g.Clauses))
				}
				if n, e := Proves(f, []api.Step{{Del: true}, s}); n != 0 || e != api.ErrArg {
					t.Errorf("no formula %d: Proves: %d, %d", i, n, e)
				}
			}
		}
		if Broken(f) {
			t.Errorf("no formula %d: it is broken", i)
		}
		if n, e := Proves(f, nil); n != 0 || e != api.ErrArg {
			t.Errorf("no formula %d: Proves: %d, %d", i, n, e)
		}
	}
}

func TestWhatIsNoClause(t *testing.T) {
	for i, c := range notClauses() {
		for _, f := range []api.Cnf{{}, four(), cnf(1, nil), cnf(top, []int{1})} {
			if Unit(f, c) || First(f, c) {
				t.Errorf("no clause %d is at hand", i)
			}
			for _, s := range []api.Step{{Lits: c}, {Del: true, Lits: c}} {
				if g, e := Do(f, s); e != api.ErrArg || !lit.Same(g, api.Cnf{}) || g.Clauses != nil {
					t.Errorf("no clause %d: Do: %v, %d", i, g, e)
				}
				// It does not matter that it is behind one that proves, or that is refused.
				for _, l := range [][]api.Step{{s}, {{}, s}, {s, {}}, {{Lits: []int{1}}, {Lits: []int{-1}}, s}} {
					if n, e := Proves(f, l); n != 0 || e != api.ErrArg {
						t.Errorf("no clause %d: Proves: %d, %d", i, n, e)
					}
				}
			}
		}
	}
	// First of several: of MaxClauses clauses it is no clause all the same.
	full := cnf(1, make([][]int, api.MaxClauses)...)
	does(t, full, follows(0), api.Cnf{}, api.ErrArg)
}

func TestWhatIsNoProof(t *testing.T) {
	long := make([]api.Step, api.MaxSteps+1)
	proves(t, four(), []api.Step{follows(2), follows(), follows(0)}, 0, api.ErrArg)
	for _, f := range []api.Cnf{{}, cnf(1, nil)} {
		if n, e := Proves(f, long); n != 0 || e != api.ErrArg {
			t.Errorf("Proves of too many steps: %d, %d", n, e)
		}
	}
	for i := range long {
		long[i].Del = true
	}
	if n, e := Proves(cnf(1, nil), long); n != 0 || e != api.ErrArg {
		t.Errorf("Proves of too many steps that go: %d, %d", n, e)
	}
	if n, e := Proves(cnf(1, nil), long[1:]); n != api.MaxSteps || e != api.ErrNone {
		t.Errorf("Proves of as many steps as may be: %d, %d", n, e)
	}
	long[api.MaxSteps].Del = false
	if n, e := Proves(cnf(1, nil, []int{-1}, nil), long[1:]); n != api.MaxSteps-1 || e != api.ErrBad {
		t.Errorf("Proves of as many steps as may be, the last one not at hand: %d, %d", n, e)
	}
	if n, e := Proves(cnf(1, []int{1}, nil, []int{-1}), long[1:]); n != api.MaxSteps-1 || e != api.OK {
		t.Errorf("Proves of as many steps as may be, the last one at hand: %d, %d", n, e)
	}
}

func TestNothingHandedInIsWrittenTo(t *testing.T) {
	f := cnf(3, []int{2, 1, 2}, []int{-1, 2}, []int{1, -2, 1}, []int{-1, -2}, []int{3})
	was := copied(f)
	steps := []api.Step{goes(2, 1, 1), follows(-3, 3), follows(5, -2, 1), goes(3), follows(2, -2, 2), follows()}
	for _, s := range steps {
		c := slices.Clone(s.Lits)
		Unit(f, s.Lits)
		First(f, s.Lits)
		g, _ := Do(f, s)
		for _, d := range g.Clauses {
			for i := range d {
				d[i] = 99
			}
		}
		if !slices.Equal(c, s.Lits) || !lit.Same(f, was) {
			t.Fatalf("%v turned to %v, %v to %v", c, s.Lits, was, f)
		}
	}
	before := fmt.Sprint(steps)
	Proves(f, steps)
	Broken(f)
	if fmt.Sprint(steps) != before || !lit.Same(f, was) {
		t.Errorf("%v turned to %v, %v to %v", before, steps, was, f)
	}
}

func TestAnswersAreNewMemory(t *testing.T) {
	f := cnf(2, make([][]int, 0, 8)...)
	f.Clauses = append(f.Clauses, append(make([]int, 0, 8), 1, 2), append(make([]int, 0, 8), -1, 2))
	for _, s := range []api.Step{follows(2), follows(-2), goes(2, 1), goes(7)} {
		g, e := Do(f, s)
		h, e2 := Do(f, s)
		if e != e2 || !lit.Same(g, h) {
			t.Errorf("%v: %v, %d, and then %v, %d", s, g, e, h, e2)
		}
		was := copied(h)
		for i, c := range g.Clauses {
			g.Clauses[i] = append(c, 9)[:len(c)]
			for j := range c {
				c[j] = 9
			}
		}
		_ = append(g.Clauses, []int{9})
		if !lit.Same(h, was) || !lit.Same(f, cnf(2, []int{1, 2}, []int{-1, 2})) || len(s.Lits) > 0 && s.Lits[0] == 9 {
			t.Errorf("%v: answers share memory: %v, %v", s, h, f)
		}
		if full := f.Clauses[:cap(f.Clauses)]; full[2] != nil {
			t.Errorf("%v: it was put behind what came in: %v", s, full)
		}
	}
}

// lists is all lists of literals of so many variables, up to a length.
func lists(vars, most int) [][]int {
	all := [][]int{nil}
	for begin := 0; most > 0; most-- {
		end := len(all)
		for _, c := range all[begin:end] {
			for l := -vars; l <= vars; l++ {
				if l != 0 {
					all = append(all, append(slices.Clone(c), l))
				}
			}
		}
		begin = end
	}
	return all
}

// formulas calls a function with each formula of some of these clauses, up to how many.
func formulas(vars int, clauses [][]int, most int, call func(f api.Cnf)) {
	var grow func(f api.Cnf, from int)
	grow = func(f api.Cnf, from int) {
		call(f)
		if len(f.Clauses) == most {
			return
		}
		for i := from; i < len(clauses); i++ {
			grow(cnf(vars, append(slices.Clone(f.Clauses), clauses[i])...), i)
		}
	}
	grow(cnf(vars), 0)
}

// justified holds what is at hand against the plain ways, and against all models.
func justified(t *testing.T, f api.Cnf, c []int, vars int) {
	t.Helper()
	unit, first := Unit(f, c), First(f, c)
	if unit != plainUnit(f, c) || first != plainFirst(f, c) {
		t.Fatalf("%v, %v: %v, %v; the plain ways %v, %v", f, c, unit, first, plainUnit(f, c), plainFirst(f, c))
	}
	all := models(f, vars)
	var both [][]int
	for _, m := range all {
		if lit.Clause(m, c) == 1 {
			both = append(both, m)
		}
	}
	if unit && len(both) < len(all) {
		t.Fatalf("%v, %v: at hand by units, but not by all models %v", f, c, all)
	}
	if first && len(all) > 0 && len(both) == 0 {
		t.Fatalf("%v, %v: at hand by its first literal, but no model makes both hold", f, c)
	}
}

func TestAllFormulasOfTwoVariables(t *testing.T) {
	short := lists(2, 2)
	asked := append(lists(2, 3), []int{3}, []int{3, 1}, []int{1, 3}, []int{-3, -1, 2})
	formulas(2, short, 2, func(f api.Cnf) {
		for _, c := range asked {
			justified(t, f, c, 3)
		}
		if Broken(f) != plainUnit(f, nil) {
			t.Fatalf("Broken(%v)", f)
		}
	})
	formulas(2, short, 3, func(f api.Cnf) {
		for _, c := range short {
			justified(t, f, c, 2)
		}
	})
}

// sets is all clauses of so many variables without a variable twice.
func sets(vars int) [][]int {
	all := [][]int{nil}
	for v := 1; v <= vars; v++ {
		for _, c := range all {
			all = append(all, append(slices.Clone(c), v), append(slices.Clone(c), -v))
		}
	}
	return all
}

func TestAllFormulasOfThreeVariables(t *testing.T) {
	asked := lists(3, 2)
	for _, c := range sets(3) {
		if len(c) == 3 {
			asked = append(asked, c, []int{c[1], c[2], c[0]}, []int{c[2], c[0], c[1]})
		}
	}
	formulas(3, sets(3)[1:], 3, func(f api.Cnf) {
		for _, c := range asked {
			justified(t, f, c, 3)
		}
	})
}

// sameProof holds Proves and Do against the plain ways, and what is proved against all models.
func sameProof(t *testing.T, f api.Cnf, l []api.Step, vars int) {
	t.Helper()
	n, e := Proves(f, l)
	if wantN, wantE := plainProves(f, l); n != wantN || e != wantE {
		t.Fatalf("Proves(%v, %v): %d, %d; the plain way %d, %d", f, l, n, e, wantN, wantE)
	}
	if e == api.OK && len(models(f, vars)) > 0 {
		t.Fatalf("Proves(%v, %v): but models make it hold", f, l)
	}
	// Without a spare variable, too.
	k, _ := open(f, l)
	k.spare = 0
	for i, s := range l[:min(n+1, len(l))] {
		wantE := api.OK
		if i == n {
			wantE = e
		}
		if e := k.do(s); e != wantE {
			t.Fatalf("%v, %v: without a spare variable step %d: %d; not %d", f, l, i, e, wantE)
		}
	}
}

func TestAllProofsOfThreeSteps(t *testing.T) {
	var steps []api.Step
	for _, c := range lists(2, 2) {
		if len(c) < 2 || c[0] < c[1] {
			steps = append(steps, follows(c...), goes(c...))
		}
	}
	steps = append(steps, follows(1, 1), follows(2, 1), follows(3), follows(-3, 1), follows(-1, 3))
	for _, f := range []api.Cnf{
		four(),
		{},
		cnf(2, []int{1}, []int{-1, 2}),
		cnf(2, []int{1}, []int{-1, 2}, []int{-2, -1}),
		cnf(2, []int{1, 2}, []int{-1}, []int{2, 1}, []int{-2}),
		cnf(2, []int{1}, []int{1}, []int{-2, 1}, nil),
		cnf(2, []int{1, -1}, []int{2, 2}, []int{-2, -1}),
	} {
		for _, a := range steps {
			for _, b := range steps {
				for _, c := range steps {
					sameProof(t, f, []api.Step{a, b, c}, 3)
				}
			}
		}
	}
}

// numbers is a row of numbers that look like any.
type numbers uint64

// pick is the next one, from 0 to n - 1.
func (r *numbers) pick(n int) int {
	*r = *r*6364136223846793005 + 1442695040888963407
	return int(uint64(*r>>33) % uint64(n))
}

// clause is a clause of so many variables, with up to most literals.
func (r *numbers) clause(vars, most int) []int {
	c := make([]int, r.pick(most+1))
	for i := range c {
		c[i] = 1 + r.pick(vars)
		if r.pick(2) == 0 {
			c[i] = -c[i]
		}
	}
	return c
}

// mixed is a clause's literals in another order, some of them once more.
func (r *numbers) mixed(c []int) []int {
	m := slices.Clone(c)
	for i := range m {
		j := r.pick(i + 1)
		m[i], m[j] = m[j], m[i]
		if r.pick(6) == 0 {
			m = append(m, m[j])
		}
	}
	return m
}

// formula is one of so many variables and clauses, most of which have two literals or more.
func (r *numbers) formula(vars, clauses int) api.Cnf {
	f := api.Cnf{Vars: vars}
	for range clauses {
		c := r.clause(vars, 4)
		if len(c) < 2 && r.pick(3) > 0 {
			c = append(c, r.clause(vars, 3)...)
		}
		if len(c) == 0 {
			c = []int{1 + r.pick(vars)}
		}
		f.Clauses = append(f.Clauses, c)
	}
	return f
}

// proof is one of so many steps, nearly all of which are done: Do is held against the plain way on the way.
func (r *numbers) proof(t *testing.T, f api.Cnf, steps int) []api.Step {
	var l []api.Step
	for tries := 0; len(l) < steps && tries < 20*steps; tries++ {
		s := api.Step{Lits: r.clause(f.Vars+r.pick(2), 3), Del: r.pick(4) == 0}
		if s.Del && len(f.Clauses) > 0 && r.pick(5) > 0 {
			s.Lits = r.mixed(f.Clauses[r.pick(len(f.Clauses))])
		}
		g, e := Do(f, s)
		if want, wantE := plainDo(f, s); e != wantE || !lit.Same(g, want) {
			t.Fatalf("Do(%v, %v): %v, %d; the plain way %v, %d", f, s, g, e, want, wantE)
		}
		if e == api.OK && (s.Del || len(s.Lits) > 0 || r.pick(3) == 0) || r.pick(60) == 0 {
			l = append(l, s)
			f = g
		}
	}
	return l
}

func TestManyProofs(t *testing.T) {
	r := numbers(7)
	told := map[api.Errno]int{}
	for range 4000 {
		f := r.formula(2+r.pick(4), 2+r.pick(14))
		l := r.proof(t, f, 1+r.pick(20))
		sameProof(t, f, l, f.Vars)
		_, e := Proves(f, l)
		told[e]++
	}
	if told[api.OK] < 200 || told[api.ErrBad] < 200 || told[api.ErrNone] < 200 {
		t.Errorf("too few of a kind: %v", told)
	}
}

func TestManyClausesOfMoreVariables(t *testing.T) {
	r := numbers(23)
	units, firsts := 0, 0
	for range 3000 {
		f := r.formula(8, 5+r.pick(30))
		for range 10 {
			c := r.clause(9, 5)
			justified(t, f, c, 9)
			if Unit(f, c) {
				units++
			} else if First(f, c) {
				firsts++
			}
		}
	}
	if units < 1000 || firsts < 1000 {
		t.Errorf("too few at hand: %d, %d", units, firsts)
	}
}

// line is a formula by which 1 is true, and of it follow 2, 3 and so on, up to vars.
func line(vars int) api.Cnf {
	f := cnf(vars, []int{1})
	for v := 1; v < vars; v++ {
		f.Clauses = append(f.Clauses, []int{-v, v + 1})
	}
	return f
}

func TestLongProof(t *testing.T) {
	// What follows without any question is not found anew for each of so many steps.
	n := 1 << 16
	f := line(n)
	var l []api.Step
	for v := 2; v < n; v++ {
		l = append(l, follows(v), goes(-v, v-1))
	}
	if at, e := Proves(f, l); at != len(l) || e != api.ErrNone {
		t.Errorf("%d, %d", at, e)
	}
	f.Clauses = append(f.Clauses, []int{-n})
	l = append(l, follows())
	if at, e := Proves(f, l); at != len(l)-1 || e != api.OK {
		t.Errorf("%d, %d", at, e)
	}
	// Each clause that goes is a reason; asked is just at the end.
	l = l[:0]
	for v := n - 1; v > 1; v-- {
		l = append(l, goes(v, -v+1))
	}
	l = append(l, follows(1), follows(-1))
	if at, e := Proves(f, l); at != len(l)-1 || e != api.ErrBad {
		t.Errorf("%d, %d", at, e)
	}
}

func TestManyNewVariables(t *testing.T) {
	// Each third one stands for the "and" of the two ahead of it: at hand by first literals alone, of which other clauses have no negation, or one.
	n := 3 << 15
	f := api.Cnf{}
	var l []api.Step
	for v := 3; v <= n; v += 3 {
		l = append(l, follows(v, -v+1, -v+2), follows(-v, v-1), follows(-v, v-2))
	}
	if at, e := Proves(f, l); at != len(l) || e != api.ErrNone {
		t.Errorf("%d, %d", at, e)
	}
	l = append(l, follows(n, 1-n))
	if at, e := Proves(f, l); at != len(l)-1 || e != api.ErrBad {
		t.Errorf("%d, %d", at, e)
	}
}

func TestAllVariablesInUse(t *testing.T) {
	// There is no spare variable: what goes may be a reason all the same.
	f := cnf(top, []int{1, top}, []int{-1, top}, []int{1, -top}, []int{-1, -top}, []int{5}, []int{-5, 6})
	proves(t, f, []api.Step{follows(top), follows()}, 1, api.OK)
	proves(t, f, []api.Step{follows(top), goes(top), follows()}, 2, api.ErrBad)
	proves(t, f, []api.Step{follows(6), goes(5), follows(6, 6), goes(6), follows(6), goes(6), goes(6), follows(5)}, 7, api.ErrBad)
	asks(t, f, []int{6}, true, true)
	asks(t, f, []int{-top}, true, true)
	asks(t, f, []int{-5}, false, false)
	does(t, cnf(top, []int{top}), goes(top), cnf(top), api.OK)
}
