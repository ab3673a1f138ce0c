package drat

import (
	"fmt"
	"math"
	"slices"
	"testing"

	"fathom/api"
	"fathom/lit"
	"fathom/rup"
	"fathom/trace"
)

const top = api.MaxVar

// example is the formula of the chapter's example.
func example() api.Cnf {
	return cnf(3, []int{1, 2}, []int{-1, 2}, []int{-2}, []int{3})
}

// four is a formula that no model makes hold, but units alone do not tell.
func four() api.Cnf {
	return cnf(2, []int{1, 2}, []int{-1, 2}, []int{1, -2}, []int{-1, -2})
}

// eight is a formula of all clauses of three variables.
func eight() api.Cnf {
	f := cnf(3)
	for _, c := range sets(3) {
		if len(c) == 3 {
			f.Clauses = append(f.Clauses, c)
		}
	}
	return f
}

// cnf is a formula.
func cnf(vars int, clauses ...[]int) api.Cnf {
	return api.Cnf{Vars: vars, Clauses: clauses}
}

// follows is a step that follows.
func follows(literals ...int) api.Step {
	return api.Step{Lits: literals}
}

// goes is a step that goes.
func goes(literals ...int) api.Step {
	return api.Step{Del: true, Lits: literals}
}

// proof is a proof.
func proof(steps ...api.Step) []api.Step {
	return steps
}

// places is places.
func places(p ...int) []int {
	return p
}

// wide is a clause of n literals, of the variables from first on.
func wide(first, n int) []int {
	c := make([]int, n)
	for i := range c {
		c[i] = first + i
	}
	return c
}

// many is n times a clause.
func many(n int, c ...int) [][]int {
	l := make([][]int, n)
	for i := range l {
		l[i] = slices.Clone(c)
	}
	return l
}

// slowUnit goes through the clauses again and again, until nothing more follows.
func slowUnit(clauses [][]int, c []int) bool {
	value := map[int]int{}
	for _, l := range c {
		if value[l] == 1 {
			return true // a tautology
		}
		value[l], value[-l] = -1, 1
	}
	for turned := true; turned; {
		turned = false
		for _, d := range clauses {
			open, isTrue := 0, false
			for _, l := range d {
				isTrue = isTrue || value[l] == 1 || value[l] == 0 && open != 0 && open != l
				if value[l] == 0 {
					open = l
				}
			}
			if isTrue {
				continue // or two of its literals are open
			}
			if open == 0 {
				return true
			}
			value[open], value[-open] = 1, -1
			turned = true
		}
	}
	return false
}

// slowNeeds is what the chapter's words say of Needs, of a formula and a clause.
func slowNeeds(clauses [][]int, c []int) ([]int, bool) {
	if !slowUnit(clauses, c) {
		return nil, false
	}
	left := make([]int, len(clauses))
	for i := range left {
		left[i] = i
	}
	for i := len(clauses) - 1; i >= 0; i-- {
		without := slices.DeleteFunc(slices.Clone(left), func(k int) bool { return k == i })
		if slowUnit(chosen(clauses, without), c) {
			left = without
		}
	}
	return left, true
}

// chosen is the clauses at some places.
func chosen(clauses [][]int, at []int) [][]int {
	var l [][]int
	for _, i := range at {
		l = append(l, clauses[i])
	}
	return l
}

// known is a clause, and where it is from: a place of the formula, or of the proof.
type known struct {
	clause []int
	step   bool
	place  int
}

// clausesOf is the clauses of which something is known.
func clausesOf(list []known) [][]int {
	var l [][]int
	for _, k := range list {
		l = append(l, k.clause)
	}
	return l
}

// slowHistory is, ahead of each step of a proof, up to the one without literals, the clauses that are there; nil, if it is no plain proof.
func slowHistory(f api.Cnf, l []api.Step) [][]known {
	var now []known
	for i, c := range f.Clauses {
		now = append(now, known{clause: c, place: i})
	}
	var history [][]known
	for i, s := range l {
		history = append(history, slices.Clone(now))
		if s.Del {
			at := slices.IndexFunc(now, func(k known) bool { return lit.Within(k.clause, s.Lits) && lit.Within(s.Lits, k.clause) })
			if at >= 0 {
				now = slices.Delete(now, at, at+1)
			}
			continue
		}
		if len(now) >= api.MaxClauses || !slowUnit(clausesOf(now), s.Lits) {
			return nil
		}
		if len(s.Lits) == 0 {
			return history
		}
		now = append(now, known{clause: s.Lits, step: true, place: i})
	}
	return nil
}

// slowFind is what the chapter's words say of Find, of a formula and a proof.
func slowFind(f api.Cnf, l []api.Step) (api.Core, api.Errno) {
	history := slowHistory(f, l)
	if history == nil {
		return api.Core{}, api.ErrNone
	}
	var c api.Core
	needed := map[int]bool{len(history) - 1: true}
	for i := len(history) - 1; i >= 0; i-- {
		if !needed[i] {
			continue
		}
		c.Steps = append(c.Steps, i)
		at, _ := slowNeeds(clausesOf(history[i]), l[i].Lits)
		for _, k := range at {
			if from := history[i][k]; from.step {
				needed[from.place] = true
			} else {
				c.Clauses = append(c.Clauses, from.place)
			}
		}
	}
	slices.Sort(c.Clauses)
	slices.Sort(c.Steps)
	c.Clauses = slices.Compact(c.Clauses)
	return c, api.OK
}

// slowIsCore is what the chapter's words say of a core, of places that can be.
func slowIsCore(f api.Cnf, l []api.Step, c api.Core) bool {
	clauses := chosen(f.Clauses, c.Clauses)
	ends := false
	for _, i := range c.Steps {
		if !slowUnit(clauses, l[i].Lits) {
			return false
		}
		clauses = append(clauses, l[i].Lits)
		ends = ends || len(l[i].Lits) == 0
	}
	return ends
}

// hasModel tells whether some model of so many variables makes a formula hold.
func hasModel(f api.Cnf, vars int) bool {
	m := make([]int, vars)
	for bits := range 1 << vars {
		for v := range m {
			m[v] = 1 - 2*(bits>>v&1)
		}
		if lit.Holds(f, m) {
			return true
		}
	}
	return false
}

// sameCore tells whether cores are alike.
func sameCore(a, b api.Core) bool {
	return slices.Equal(a.Clauses, b.Clauses) && slices.Equal(a.Steps, b.Steps)
}

// needs fails unless Needs tells these places, and the plain way does.
func needs(t *testing.T, f api.Cnf, c []int, want ...int) {
	t.Helper()
	got, ok := Needs(f, c)
	if !ok || !slices.Equal(got, want) {
		t.Errorf("Needs(%v, %v): %v, %v; not %v", f, c, got, ok, want)
	}
	if slow, ok := slowNeeds(f.Clauses, c); !ok || !slices.Equal(slow, want) {
		t.Errorf("Needs(%v, %v): by the plain way %v, %v; not %v", f, c, slow, ok, want)
	}
}

// needsNone fails unless Needs tells false, and no places.
func needsNone(t *testing.T, f api.Cnf, c []int) {
	t.Helper()
	if got, ok := Needs(f, c); ok || len(got) != 0 {
		t.Errorf("Needs(%v, %v): %v, %v", f, c, got, ok)
	}
}

// finds fails unless it is a plain proof, Find tells this core, and the plain way does.
func finds(t *testing.T, f api.Cnf, l []api.Step, clauses, steps []int) {
	t.Helper()
	want := api.Core{Clauses: clauses, Steps: steps}
	if !Plain(f, l) {
		t.Errorf("Plain(%v, %v): false", f, l)
	}
	if got, e := Find(f, l); e != api.OK || !sameCore(got, want) {
		t.Errorf("Find(%v, %v): %v, %d; not %v", f, l, got, e, want)
	}
	if slow, e := slowFind(f, l); e != api.OK || !sameCore(slow, want) {
		t.Errorf("Find(%v, %v): by the plain way %v, %d; not %v", f, l, slow, e, want)
	}
	checks(t, f, l, clauses, steps, api.OK)
}

// findsNone fails unless it is no plain proof, and Find tells this error, and nothing else.
func findsNone(t *testing.T, f api.Cnf, l []api.Step, want api.Errno) {
	t.Helper()
	if Plain(f, l) {
		t.Errorf("Plain(%v, %v): true", f, l)
	}
	if got, e := Find(f, l); e != want || len(got.Clauses) != 0 || len(got.Steps) != 0 {
		t.Errorf("Find(%v, %v): %v, %d; not %d", f, l, got, e, want)
	}
}

// checks fails unless Check and Trim tell this error, and Trim just what belongs to it.
func checks(t *testing.T, f api.Cnf, l []api.Step, clauses, steps []int, want api.Errno) {
	t.Helper()
	c := api.Core{Clauses: clauses, Steps: steps}
	if e := Check(f, l, c); e != want {
		t.Errorf("Check(%v, %v, %v): %d; not %d", f, l, c, e, want)
	}
	g, s, e := Trim(f, l, c)
	wantF := api.Cnf{}
	var wantL []api.Step
	if want == api.OK {
		wantF = cnf(f.Vars, chosen(f.Clauses, clauses)...)
		for _, i := range steps {
			wantL = append(wantL, l[i])
		}
	}
	if e != want || !lit.Same(g, wantF) || !trace.Same(s, wantL) {
		t.Errorf("Trim(%v, %v, %v): %v, %v, %d; not %v, %v, %d", f, l, c, g, s, e, wantF, wantL, want)
	}
}

func TestExample(t *testing.T) {
	l := proof(follows(2), follows())
	// Units alone tell it: the first step is not needed.
	finds(t, example(), l, places(0, 1, 2), places(1))
	finds(t, example(), proof(follows()), places(0, 1, 2), places(0))
	finds(t, example(), proof(follows(2, 3), follows(3), follows()), places(0, 1, 2), places(2))
	needs(t, example(), []int{2}, 0, 1)
	needs(t, example(), nil, 0, 1, 2)
	g, s, e := Trim(example(), l, api.Core{Clauses: places(0, 1, 2), Steps: places(0, 1)})
	if e != api.OK || !lit.Same(g, cnf(3, []int{1, 2}, []int{-1, 2}, []int{-2})) || !trace.Same(s, l) {
		t.Errorf("Trim: %v, %v, %d", g, s, e)
	}
}

func TestNeeds(t *testing.T) {
	f := cnf(5, []int{-1, 2}, []int{-2, 3}, []int{-3, -4, 5}, []int{4, 5})
	needs(t, f, []int{-1, 3}, 0, 1)
	needs(t, f, []int{3, 5, -2}, 1)
	needs(t, f, []int{5, -3}, 2, 3)
	needs(t, f, []int{-1, 5}, 0, 1, 2, 3)
	needs(t, f, []int{4, 5}, 3)
	needs(t, f, []int{4, 5, -1, 3}, 0, 1)
	needsNone(t, f, []int{5})
	needsNone(t, f, []int{-5, 4})
	needsNone(t, f, nil)
	needsNone(t, f, []int{1, 3})
}

func TestNeedsLeavesOutTheLastClausesFirst(t *testing.T) {
	// It is at hand by the first clause, by the next two, and by the last one.
	c := []int{1, 2}
	needs(t, cnf(3, []int{2}, []int{1, 3}, []int{-3, 2}, []int{1}), c, 0)
	needs(t, cnf(3, []int{1, 3}, []int{2}, []int{-3, 2}, []int{1}), c, 1)
	needs(t, cnf(3, []int{1, 3}, []int{-3, 2}, []int{1}, []int{2}), c, 0, 1)
	needs(t, cnf(3, []int{1, 3}, []int{1}, []int{2}, []int{-3, 2}), c, 1)
	needs(t, cnf(3, []int{1}, []int{1, 3}, []int{-3, 2}, []int{2}), c, 0)
	// What is left need not be the fewest: with the last one, two would do.
	needs(t, cnf(4, []int{1, 3}, []int{2, -3, 4}, []int{2, -3, -4}, []int{-3}), c, 0, 1, 2)
	needs(t, cnf(4, []int{-3}, []int{1, 3}, []int{2, -3, 4}, []int{2, -3, -4}), c, 0, 1)
	// The last one stays, if nothing else tells what it does.
	needs(t, cnf(4, []int{1, 3}, []int{4}, []int{2}, []int{-3}, []int{-4, 3}), []int{1, 4}, 1)
	needs(t, cnf(4, []int{1, 3}, []int{4, -1}, []int{-4, -2}, []int{2}, []int{-3}), nil, 0, 1, 2, 3, 4)
}

func TestNeedsOfAClauseThatIsThereTwice(t *testing.T) {
	needs(t, cnf(2, []int{1, 2}, []int{1, 2}), []int{1, 2}, 0)
	needs(t, cnf(2, []int{1, 2}, []int{2, 1, 2}, []int{-1, 2}, []int{-1, 2}), []int{2}, 0, 2)
	needs(t, cnf(2, []int{2}, []int{1}, []int{1}, []int{-1}, []int{-1}), nil, 1, 3)
	needs(t, cnf(1, nil, nil), []int{1}, 0)
}

func TestNeedsOfNoVariableAndNoClause(t *testing.T) {
	needsNone(t, api.Cnf{}, nil)
	needsNone(t, api.Cnf{}, []int{})
	needsNone(t, api.Cnf{}, []int{1})
	needsNone(t, cnf(0, [][]int{}...), []int{-top})
	needsNone(t, cnf(3), []int{-2, 1})
	needsNone(t, cnf(top), nil)
	needs(t, api.Cnf{}, []int{1, -1})
}

func TestNeedsOfTheEmptyClause(t *testing.T) {
	needs(t, cnf(0, nil), nil, 0)
	needs(t, cnf(0, []int{}), []int{4, 2}, 0)
	needs(t, cnf(2, []int{1}, nil, []int{2}), nil, 1)
	needs(t, cnf(2, []int{1}, nil, []int{2}), []int{1}, 0)
	needs(t, cnf(2, []int{1}, nil, []int{2}), []int{2}, 1)
	needs(t, cnf(2, []int{1}, []int{-1}, nil), nil, 0, 1)
	needs(t, cnf(2, []int{1}, nil, []int{-1}), nil, 1)
	needsNone(t, cnf(2, []int{1}, []int{2, -1}), nil)
}

func TestNeedsOfATautology(t *testing.T) {
	for _, c := range [][]int{{1, -1}, {2, 3, -2}, {3, 3, 1, -3}, {-top, top}} {
		needs(t, example(), c)
		needs(t, four(), c)
		needs(t, cnf(0, nil), c)
	}
	// One of the formula says nothing.
	needsNone(t, cnf(2, []int{1, -1}, []int{2, -2, 1}), []int{1})
	needsNone(t, cnf(2, []int{1, -1}), nil)
	needs(t, cnf(2, []int{1, -1}, []int{-1, 1, 2}, []int{2}), []int{2}, 2)
}

func TestNeedsOfLiteralsThatStandMoreThanOnce(t *testing.T) {
	needs(t, cnf(2, []int{-1, 2}), []int{2, -1, 2, -1}, 0)
	needs(t, cnf(2, []int{1, 1}, []int{-1, 2, -1}), []int{2, 2}, 0, 1)
	needs(t, cnf(2, []int{1, 1}, []int{2, 2, 2}, []int{-1, -1, -1}), nil, 0, 2)
	needs(t, cnf(2, []int{1, 2, 1}, []int{-1, -1, 2, 2}), []int{2}, 0, 1)
	needsNone(t, cnf(2, []int{1, 1, 2}), []int{1, 1})
	needs(t, cnf(1, slices.Repeat([]int{1}, api.MaxWide), slices.Repeat([]int{-1}, api.MaxWide)), nil, 0, 1)
}

func TestNeedsOfVariablesThatTheFormulaHasNot(t *testing.T) {
	f := cnf(2, []int{-1, 2}, []int{1})
	needs(t, f, []int{2, 7}, 0, 1)
	needs(t, f, []int{-top, 1}, 1)
	needs(t, f, []int{top, -1, 2}, 0)
	needsNone(t, f, []int{7})
	needsNone(t, f, []int{-top, -1})
}

func TestPlainProofs(t *testing.T) {
	finds(t, four(), proof(follows(2), follows()), places(0, 1, 2, 3), places(0, 1))
	finds(t, four(), proof(follows(1), follows(2), follows()), places(0, 1, 2, 3), places(0, 2))
	finds(t, four(), proof(follows(-1), follows(2, -2), follows(-2), follows()), places(0, 1, 2, 3), places(0, 3))
	// A step may itself be needed just by one that is needed.
	f := cnf(4, []int{1, 2, 3}, []int{1, 2, -3}, []int{1, -2, 4}, []int{1, -2, -4}, []int{-1, 3}, []int{-1, -3})
	finds(t, f, proof(follows(1, 2), follows(1, 4, 2), follows(1), follows()), places(0, 1, 2, 3, 4, 5), places(0, 2, 3))
	finds(t, f, proof(follows(1, 2), follows(1), follows(3), follows()), places(0, 1, 2, 3, 4, 5), places(0, 1, 3))
}

func TestProofsThatAreNotPlain(t *testing.T) {
	findsNone(t, four(), nil, api.ErrNone)
	findsNone(t, four(), proof(), api.ErrNone)
	findsNone(t, four(), proof(follows(2)), api.ErrNone)
	findsNone(t, four(), proof(follows()), api.ErrNone)
	findsNone(t, four(), proof(follows(3), follows(2), follows()), api.ErrNone)
	findsNone(t, cnf(2, []int{1}, []int{2}), proof(follows(1), follows(-2), follows()), api.ErrNone)
	findsNone(t, cnf(2, []int{1}, []int{2}), proof(follows(1), follows()), api.ErrNone)
	findsNone(t, cnf(1, []int{1}, []int{-1}), nil, api.ErrNone)
	findsNone(t, cnf(1, []int{1}, []int{-1}), proof(follows(1)), api.ErrNone)
	// A step without literals that goes is not the one without literals.
	findsNone(t, four(), proof(follows(2), goes()), api.ErrNone)
	findsNone(t, cnf(0, nil), proof(goes()), api.ErrNone)
}

func TestNoVariableAndNoClause(t *testing.T) {
	for _, f := range []api.Cnf{{}, cnf(3), cnf(top), cnf(0, [][]int{}...)} {
		for _, l := range [][]api.Step{nil, {}, {follows()}, {goes()}, {goes(1), follows()}, {follows(1, -1), follows()}, {follows(1), follows()}} {
			findsNone(t, f, l, api.ErrNone)
		}
		checks(t, f, nil, nil, nil, api.ErrBad)
		checks(t, f, proof(), places(), places(), api.ErrBad)
		checks(t, f, proof(follows()), nil, nil, api.ErrBad)
		checks(t, f, proof(follows()), nil, places(0), api.ErrBad)
		checks(t, f, proof(follows(1, -1)), nil, places(0), api.ErrBad)
		checks(t, f, proof(follows()), places(0), places(0), api.ErrArg)
	}
}

func TestFormulaWithTheEmptyClause(t *testing.T) {
	finds(t, cnf(0, nil), proof(follows()), places(0), places(0))
	finds(t, cnf(2, []int{1}, nil), proof(follows(2), follows()), places(1), places(1))
	finds(t, cnf(2, []int{1}, []int{}, []int{-1}), proof(follows()), places(1), places(0))
	finds(t, cnf(2, []int{1}, []int{-1}, nil), proof(follows()), places(0, 1), places(0))
	finds(t, cnf(2, []int{1}, nil, nil), proof(goes(), follows()), places(2), places(1))
	// It goes, but what followed from it is there.
	finds(t, cnf(2, []int{1}, nil), proof(follows(-1), goes(), follows()), places(0, 1), places(0, 2))
	findsNone(t, cnf(2, []int{1}, nil), proof(goes(), follows()), api.ErrNone)
	findsNone(t, cnf(0, nil), nil, api.ErrNone)
}

func TestClauseThatIsThereTwice(t *testing.T) {
	f := cnf(2, []int{1, 2}, []int{2, 1}, []int{-1, 2}, []int{1, -2}, []int{-2, 1, 1}, []int{-1, -2})
	finds(t, f, proof(follows(2), follows()), places(0, 2, 3, 5), places(0, 1))
	// The first one goes, then the other one.
	finds(t, f, proof(goes(1, 2), follows(2), follows()), places(1, 2, 3, 5), places(1, 2))
	finds(t, f, proof(goes(2, 1, 2), goes(-2, 1), follows(2), follows()), places(1, 2, 4, 5), places(2, 3))
	finds(t, f, proof(follows(2), goes(-2, 1), follows()), places(0, 2, 4, 5), places(0, 2))
	findsNone(t, f, proof(goes(2, 1), goes(2, 1), follows(2), follows()), api.ErrNone)
	// A step that follows twice, too: the first one of them is needed, if it is there.
	finds(t, four(), proof(follows(2), follows(2, 2), follows()), places(0, 1, 2, 3), places(0, 2))
	finds(t, four(), proof(follows(2), follows(2, 2), goes(2), follows()), places(0, 1, 2, 3), places(1, 3))
	findsNone(t, four(), proof(follows(2), follows(2, 2), goes(2), goes(2), follows()), api.ErrNone)
}

func TestStepAtHandByItsFirstLiteralAlone(t *testing.T) {
	all := wide(0, 8)
	finds(t, eight(), proof(follows(1, 2), follows(1), follows(2), follows()), all, places(0, 1, 2, 3))
	first := follows(4, -1)
	for _, l := range [][]api.Step{
		proof(first, follows(1, 2), follows(1), follows(2), follows()),
		proof(follows(1, 2), first, follows(1), follows(2), follows()),
		proof(follows(1, 2), follows(1), first, follows(2), follows()),
		proof(follows(9), follows(1, 2), follows(1), follows(2), follows()),
		proof(follows(1, 2), follows(1), follows(-top), follows(2), follows()),
		proof(first, goes(4, -1), follows(1, 2), follows(1), follows(2), follows()),
	} {
		if n, e := rup.Proves(eight(), l); n != len(l)-1 || e != api.OK {
			t.Errorf("%v: it does not prove: %d, %d", l, n, e)
		}
		findsNone(t, eight(), l, api.ErrNone)
	}
	// Behind the one without literals it does not matter.
	for _, behind := range [][]api.Step{{first}, {follows(9), follows()}, {goes(), first}} {
		finds(t, eight(), append(proof(follows(1, 2), follows(1), follows(2), follows()), behind...), all, places(0, 1, 2, 3))
	}
	// One that is at hand both ways is no such one.
	finds(t, eight(), proof(follows(4, 1, 2), follows(1, 2), follows(1), follows(2), follows()), all, places(1, 2, 3, 4))
}

func TestStepsBehindTheOneWithoutLiterals(t *testing.T) {
	for _, behind := range [][]api.Step{
		{follows(7)},
		{follows(1, 2), goes(1, 2)},
		{goes(2), goes(1, 2), goes(-1, 2), goes(1, -2), goes(-1, -2), goes(), follows(5, 6)},
		{follows()},
		{follows(), goes(2), follows(), goes(), follows()},
		{goes()},
	} {
		l := append(proof(follows(2), follows()), behind...)
		finds(t, four(), l, places(0, 1, 2, 3), places(0, 1))
	}
	// They may not be what is no step.
	findsNone(t, four(), proof(follows(2), follows(), follows(0)), api.ErrArg)
	findsNone(t, four(), proof(follows(2), follows(), goes(top+1)), api.ErrArg)
}

func TestMoreThanOneStepWithoutLiterals(t *testing.T) {
	finds(t, cnf(1, []int{1}, []int{-1}), proof(follows(), follows(1), follows()), places(0, 1), places(0))
	// The first one is wrong: that a later one is at hand does not help.
	findsNone(t, four(), proof(follows(), follows(2), follows()), api.ErrNone)
	l := proof(follows(2), follows(), follows(1), follows())
	checks(t, four(), l, places(0, 1, 2, 3), places(0, 1, 3), api.OK)
	checks(t, four(), l, places(0, 1, 2, 3), places(0, 1, 2, 3), api.OK)
	checks(t, four(), l, places(0, 1, 2, 3), places(0, 2), api.ErrBad)
	// Each is one without literals.
	checks(t, four(), l, places(0, 1, 2, 3), places(0, 3), api.OK)
	checks(t, four(), l, places(0, 1, 2, 3), places(1), api.ErrBad)
	checks(t, four(), l, places(0, 1, 2, 3), places(3), api.ErrBad)
}

func TestStepsThatGo(t *testing.T) {
	f := example()
	// A clause of the formula, behind what needed it, and ahead of that.
	finds(t, f, proof(follows(2), goes(2, 1), goes(-1, 2), follows()), places(0, 1, 2), places(0, 3))
	finds(t, f, proof(goes(3), follows(2), goes(1, 2), follows()), places(0, 1, 2), places(1, 3))
	findsNone(t, f, proof(goes(1, 2), follows(2), follows()), api.ErrNone)
	findsNone(t, f, proof(follows(2), goes(-2), follows()), api.ErrNone)
	// A step that follows.
	finds(t, f, proof(follows(2), goes(2), follows()), places(0, 1, 2), places(2))
	finds(t, f, proof(follows(2), goes(1, 2), follows(2, 3), goes(3, 2), follows()), places(0, 1, 2), places(0, 4))
	findsNone(t, f, proof(follows(2), goes(1, 2), goes(2), follows()), api.ErrNone)
	// One that comes again is another one, and may need the first one's.
	finds(t, f, proof(follows(2), goes(2), follows(2), goes(1, 2), follows()), places(0, 1, 2), places(2, 4))
	finds(t, f, proof(follows(2), goes(1, 2), follows(2), goes(2), follows()), places(0, 1, 2), places(0, 2, 4))
	// What is not there.
	finds(t, f, proof(goes(9), follows(2), goes(-3), goes(), goes(1), goes(2, 1, 3), follows()), places(0, 1, 2), places(6))
	finds(t, f, proof(goes(top, -top), follows()), places(0, 1, 2), places(1))
	// A tautology goes as every other one does.
	finds(t, f, proof(follows(5, -5), goes(-5, 5), goes(5, -5), follows()), places(0, 1, 2), places(3))
	// Of which clause something followed does not matter, while another one tells the same.
	g := cnf(3, []int{1}, []int{-1, 2}, []int{1, 1}, []int{-2, 3}, []int{-2, -3})
	finds(t, g, proof(follows(3), goes(1), follows()), places(1, 2, 3, 4), places(2))
	finds(t, g, proof(follows(2), goes(1), goes(1), goes(-1, 2), follows()), places(0, 1, 3, 4), places(0, 4))
	findsNone(t, g, proof(follows(2), goes(1), goes(1), goes(2), follows()), api.ErrNone)
}

func TestStepsThatGoOfGreatVariables(t *testing.T) {
	// None of these clauses is like another one: what goes is just the one that is told.
	var units []int
	for bit := 1; bit <= top; bit *= 2 {
		units = append(units, bit, -bit)
	}
	for i, gone := range units {
		f := api.Cnf{Vars: top}
		for _, l := range units {
			f.Clauses = append(f.Clauses, []int{l})
		}
		want := places(0, 1)
		if i < 2 {
			want = places(2, 3)
		}
		finds(t, f, proof(goes(gone, gone), follows()), want, places(1))
	}
}

func TestStepsWithGreaterVariables(t *testing.T) {
	finds(t, four(), proof(follows(2, 9), follows(-9, 2), follows(2), follows()), places(0, 1, 2, 3), places(2, 3))
	findsNone(t, four(), proof(follows(2, top), goes(1, 2), goes(-1, 2), follows(2), follows()), api.ErrNone)
	// The formula's variables stay its own.
	l := proof(follows(top, 2), follows(2, -top), goes(1, 2), follows(2), follows())
	finds(t, four(), l, places(0, 1, 2, 3), places(0, 1, 3, 4))
	if g, _, e := Trim(four(), l, api.Core{Clauses: places(0, 1, 2, 3), Steps: places(0, 1, 3, 4)}); e != api.OK || g.Vars != 2 {
		t.Errorf("Trim: %v, %d", g, e)
	}
}

func TestCheckOfCores(t *testing.T) {
	f, l := four(), proof(follows(2), goes(1, 2), follows(1), goes(2), follows())
	all := places(0, 1, 2, 3)
	finds(t, f, l, all, places(0, 2, 4))
	// More than what is needed.
	g := cnf(4, []int{1, 2}, []int{4}, []int{-1, 2}, []int{1, -2}, []int{-4, 3}, []int{-1, -2})
	m := proof(follows(3), follows(2), follows(-1, 4), follows())
	finds(t, g, m, places(0, 2, 3, 5), places(1, 3))
	checks(t, g, m, places(0, 1, 2, 3, 5), places(1, 3), api.OK)
	checks(t, g, m, places(0, 1, 2, 3, 4, 5), places(0, 1, 2, 3), api.OK)
	checks(t, g, m, places(0, 2, 3, 5), places(0, 1, 3), api.ErrBad)
	checks(t, g, m, places(0, 1, 2, 3, 5), places(0, 1, 3), api.ErrBad)
	checks(t, g, m, places(0, 1, 2, 3, 4, 5), places(0, 1, 3), api.OK)
	// Without the step that has no literals.
	checks(t, f, l, all, places(0, 2), api.ErrBad)
	checks(t, f, l, all, places(0), api.ErrBad)
	checks(t, f, l, all, places(), api.ErrBad)
	checks(t, f, l, nil, nil, api.ErrBad)
	// A clause is missing, or a step.
	for i := range all {
		checks(t, f, l, slices.Delete(slices.Clone(all), i, i+1), places(0, 2, 4), api.ErrBad)
	}
	checks(t, f, l, all, places(4), api.ErrBad)
	checks(t, f, l, nil, places(0, 2, 4), api.ErrBad)
	checks(t, f, l, all, places(0, 4), api.OK)
	checks(t, f, l, all, places(2, 4), api.OK)
	// What is behind a step does not help it.
	n := proof(follows(3, 1), follows(3), follows(), follows(1))
	h := cnf(3, []int{1, 2}, []int{1, -2}, []int{-1, 3}, []int{-1, -3})
	checks(t, h, n, all, places(0, 1, 2), api.OK)
	checks(t, h, n, all, places(2, 3), api.ErrBad)
	checks(t, h, n, all, places(0, 2, 3), api.ErrBad)
	checks(t, h, n, places(0, 1), places(0), api.ErrBad)
	checks(t, h, n, all, places(1, 2, 3), api.OK)
	// Behind the one without literals all is at hand.
	checks(t, h, append(n, follows(-3)), all, places(1, 2, 3, 4), api.OK)
	// A step that is at hand by its first literal alone is none of a core.
	p := proof(follows(4), follows(3), follows())
	checks(t, h, p, all, places(0, 1, 2), api.ErrBad)
}

func TestCheckLooksAtTheCoreAlone(t *testing.T) {
	// Steps that go, wrong ones, and ones at hand by their first literal alone count for nothing, if they are none of the core.
	for _, l := range [][]api.Step{
		proof(follows(3), follows(2), goes(3), follows()),
		proof(follows(-3, 1), follows(2), goes(2), follows()),
		proof(goes(1, 2), follows(2), goes(7), follows()),
	} {
		findsNone(t, four(), l, api.ErrNone)
		checks(t, four(), l, places(0, 1, 2, 3), places(1, 3), api.OK)
		checks(t, four(), l, places(1, 2, 3), places(1, 3), api.ErrBad)
		checks(t, four(), l, places(0, 1, 2, 3), places(3), api.ErrBad)
	}
}

func TestCheckOfTautologies(t *testing.T) {
	l := proof(follows(1, -1), follows(2), follows(-top, 1, top), follows())
	finds(t, four(), l, places(0, 1, 2, 3), places(1, 3))
	checks(t, four(), l, places(0, 1, 2, 3), places(0, 1, 2, 3), api.OK)
	checks(t, four(), l, places(0, 1, 2, 3), places(0, 2, 3), api.ErrBad)
	checks(t, cnf(1, nil), l, places(0), places(0, 2, 3), api.OK)
	checks(t, cnf(1, nil), l, nil, places(0, 2), api.ErrBad)
}

func TestPlacesThatCannotBe(t *testing.T) {
	f, l := example(), proof(follows(2), goes(3), follows(), goes())
	finds(t, f, l, places(0, 1, 2), places(2))
	checks(t, f, l, places(0, 1, 2, 3), places(0, 2), api.OK)
	right := places(0, 1, 2)
	for _, clauses := range [][]int{{1, 0, 2}, {0, 2, 1}, {0, 0, 1, 2}, {0, 1, 2, 2}, {-1, 0, 1, 2}, {0, 1, 2, 4}, {0, 1, 2, 3, 4}, {4}, {9}, {-1}, {math.MinInt}, {math.MaxInt}, {0, math.MinInt}, {2, 1, 0}, {3, 3}} {
		checks(t, f, l, clauses, places(0, 2), api.ErrArg)
		checks(t, f, l, clauses, nil, api.ErrArg)
		checks(t, f, l, clauses, places(2, 0), api.ErrArg)
	}
	for _, steps := range [][]int{{2, 0}, {0, 0, 2}, {0, 2, 2}, {-1, 0, 2}, {0, 2, 4}, {4}, {-1}, {math.MinInt}, {math.MaxInt}, {0, 2, math.MaxInt}} {
		checks(t, f, l, right, steps, api.ErrArg)
		checks(t, f, l, nil, steps, api.ErrArg)
	}
	// Places of steps that go.
	for _, steps := range [][]int{{0, 1, 2}, {1}, {3}, {0, 2, 3}, {1, 3}} {
		checks(t, f, l, right, steps, api.ErrArg)
		checks(t, f, l, nil, steps, api.ErrArg)
	}
	checks(t, api.Cnf{}, nil, places(0), nil, api.ErrArg)
	checks(t, api.Cnf{}, nil, nil, places(0), api.ErrArg)
	checks(t, api.Cnf{}, nil, nil, places(-1), api.ErrArg)
}

// notFormulas is what is no formula.
func notFormulas() []api.Cnf {
	return []api.Cnf{
		cnf(-1),
		cnf(math.MinInt),
		cnf(top + 1),
		cnf(math.MaxInt),
		cnf(2, []int{1}, []int{0}),
		cnf(2, nil, []int{1, 3}),
		cnf(2, []int{-3}),
		cnf(top, []int{math.MinInt}),
		cnf(top, []int{math.MaxInt}, nil),
		cnf(api.MaxWide+1, wide(1, api.MaxWide+1)),
		{Vars: 1, Clauses: make([][]int, api.MaxClauses+1)},
	}
}

// notClauses is what is no clause.
func notClauses() [][]int {
	return [][]int{{0}, {1, 0}, {0, 1, -1}, {top + 1}, {1, -top - 1}, {math.MinInt}, {1, math.MaxInt}, wide(1, api.MaxWide+1), slices.Repeat([]int{1}, api.MaxWide+1)}
}

// refused fails unless all calls refuse a formula and a proof, whatever the core is.
func refused(t *testing.T, f api.Cnf, l []api.Step) {
	t.Helper()
	if Plain(f, l) {
		t.Error("Plain: true")
	}
	if c, e := Find(f, l); e != api.ErrArg || len(c.Clauses) != 0 || len(c.Steps) != 0 {
		t.Errorf("Find: %v, %d", c, e)
	}
	for _, c := range []api.Core{{}, {Clauses: places(0), Steps: places(0)}, {Steps: places(0)}, {Clauses: places(1, 0)}} {
		if e := Check(f, l, c); e != api.ErrArg {
			t.Errorf("Check of %v: %d", c, e)
		}
		if g, s, e := Trim(f, l, c); e != api.ErrArg || g.Vars != 0 || len(g.Clauses) != 0 || len(s) != 0 {
			t.Errorf("Trim of %v: %d, and something", c, e)
		}
	}
}

func TestWhatIsNoFormula(t *testing.T) {
	for _, f := range notFormulas() {
		for _, l := range [][]api.Step{nil, {follows()}, {follows(1, -1), follows()}, {goes(), follows()}, {follows(0), follows()}} {
			refused(t, f, l)
		}
		for _, c := range append(notClauses(), nil, []int{1}, []int{1, -1}) {
			if got, ok := Needs(f, c); ok || len(got) != 0 {
				t.Errorf("Needs: %v, %v", got, ok)
			}
		}
	}
}

func TestWhatIsNoProof(t *testing.T) {
	for _, f := range []api.Cnf{{}, four(), cnf(1, nil), cnf(top, []int{1}, []int{-1})} {
		for _, c := range notClauses() {
			for _, s := range []api.Step{{Lits: c}, {Del: true, Lits: c}} {
				for _, l := range [][]api.Step{{s}, {{}, s}, {s, {}}, {follows(9), s}} {
					refused(t, f, l)
				}
			}
		}
	}
	long := make([]api.Step, api.MaxSteps+1)
	refused(t, cnf(1, nil), long)
	// As many steps as may be.
	if c, e := Find(cnf(1, nil), long[1:]); e != api.OK || !sameCore(c, api.Core{Clauses: places(0), Steps: places(0)}) {
		t.Errorf("Find: %v, %d", c, e)
	}
	for i := range long {
		long[i].Del = true
	}
	refused(t, cnf(1, nil), long)
	long[api.MaxSteps].Del = false
	if c, e := Find(cnf(1, []int{1}, nil, []int{-1}), long[1:]); e != api.OK || !sameCore(c, api.Core{Clauses: places(0, 2), Steps: places(api.MaxSteps - 1)}) {
		t.Errorf("Find: %v, %d", c, e)
	}
	if c, e := Find(cnf(1, []int{1}, nil), long[1:]); e != api.ErrNone || len(c.Clauses) != 0 || len(c.Steps) != 0 {
		t.Errorf("Find: %v, %d", c, e)
	}
}

func TestWhatIsNoClause(t *testing.T) {
	for _, f := range []api.Cnf{{}, four(), cnf(1, nil), cnf(top, []int{1})} {
		for _, c := range notClauses() {
			if got, ok := Needs(f, c); ok || len(got) != 0 {
				t.Errorf("Needs(%v, %v): %v, %v", f, c, got, ok)
			}
		}
	}
}

func TestWidestClauses(t *testing.T) {
	c := wide(1, api.MaxWide)
	f := cnf(top, c, []int{-1, 2}, []int{-2, 1})
	for _, of := range []struct {
		c    []int
		want []int
	}{{c, places(0)}, {c[1:], places(0, 1)}, {append(places(1), c[2:]...), places(0, 2)}, {c[2:], nil}, {c[:api.MaxWide-1], nil}} {
		if got, ok := Needs(f, of.c); ok != (of.want != nil) || !slices.Equal(got, of.want) {
			t.Errorf("Needs: %v, %v; not %v", got, ok, of.want)
		}
	}
	f = cnf(top, c)
	for v := 1; v <= api.MaxWide; v++ {
		f.Clauses = append(f.Clauses, []int{-v, -v})
	}
	l := proof(api.Step{Lits: c}, goes(c...), follows(), api.Step{Lits: c})
	found, e := Find(f, l)
	if e != api.OK || !slices.Equal(found.Clauses, wide(0, api.MaxWide+1)) || !slices.Equal(found.Steps, places(0, 2)) || Check(f, l, found) != api.OK {
		t.Errorf("Find: %d clauses, %v, %d", len(found.Clauses), found.Steps, e)
	}
	l = proof(api.Step{Lits: c}, goes(c...), goes(c...), follows())
	if Plain(f, l) {
		t.Error("Plain")
	}
}

func TestMostClauses(t *testing.T) {
	f := cnf(2, many(api.MaxClauses-1, 1, 2)...)
	last := api.MaxClauses - 2
	f.Clauses[0], f.Clauses[last] = []int{-1}, []int{-2}
	// The first one of so many alike is needed.
	if got, ok := Needs(f, nil); !ok || !slices.Equal(got, places(0, 1, last)) {
		t.Errorf("Needs: %v, %v", got, ok)
	}
	found := func(l []api.Step, clauses, steps []int) {
		t.Helper()
		want := api.Core{Clauses: clauses, Steps: steps}
		c, e := Find(f, l)
		if e != api.OK || !sameCore(c, want) || !Plain(f, l) || Check(f, l, c) != api.OK {
			t.Errorf("Find: %v, %d; not %v", c, e, want)
		}
	}
	none := func(l []api.Step) {
		t.Helper()
		if c, e := Find(f, l); e != api.ErrNone || len(c.Clauses) != 0 || len(c.Steps) != 0 || Plain(f, l) {
			t.Errorf("Find of %v: %v, %d", l, c, e)
		}
	}
	// There is room for one more.
	found(proof(follows()), places(0, 1, last), places(0))
	none(proof(follows(2), follows()))
	found(proof(follows(2), goes(2, 1), follows()), places(0, 2, last), places(2))
	found(proof(follows(2), goes(-1), follows()), places(0, 1, last), places(0, 2))
	none(proof(goes(3), follows(2), goes(4), follows()))
	found(proof(goes(1, 2), follows(2), follows()), places(0, 2, last), places(2))
	// There is none.
	f.Clauses = append(f.Clauses, []int{2})
	none(proof(follows()))
	none(proof(goes(7), follows()))
	found(proof(goes(2), follows()), places(0, 1, last), places(1))
	// At hand it is, of a formula of so many clauses; of one more, which is no formula, nothing is.
	all := make([]int, api.MaxClauses)
	for i := range all {
		all[i] = i
	}
	if e := Check(f, proof(follows()), api.Core{Clauses: all, Steps: places(0)}); e != api.OK {
		t.Errorf("Check of all clauses: %d", e)
	}
	if e := Check(f, proof(follows(2), follows()), api.Core{Clauses: all, Steps: places(0, 1)}); e != api.ErrBad {
		t.Errorf("Check of all clauses, and a step: %d", e)
	}
	if e := Check(f, proof(follows(2), follows()), api.Core{Clauses: all[:last], Steps: places(0, 1)}); e != api.ErrBad {
		t.Errorf("Check of too few clauses: %d", e)
	}
	if e := Check(f, proof(follows(2), follows()), api.Core{Clauses: all[:last+1], Steps: places(0, 1)}); e != api.OK {
		t.Errorf("Check of all clauses but one, and a step: %d", e)
	}
}

func TestAllVariablesInUse(t *testing.T) {
	f := cnf(top, []int{1, top}, []int{-1, top}, []int{1, -top}, []int{-1, -top}, []int{5}, []int{-5, 6})
	all := places(0, 1, 2, 3)
	finds(t, f, proof(follows(top), follows()), all, places(0, 1))
	finds(t, f, proof(follows(6), goes(5), follows(6), goes(6), follows(top), follows()), all, places(4, 5))
	findsNone(t, f, proof(follows(top), goes(top), follows()), api.ErrNone)
	findsNone(t, f, proof(follows(6), goes(5), follows(6, 6), goes(6), follows(6), goes(6), goes(6), follows(5), follows()), api.ErrNone)
	needs(t, f, []int{6}, 4, 5)
	needs(t, f, []int{-top}, 2, 3)
	needsNone(t, f, nil)
	l := proof(follows(top), follows(), follows(3), follows())
	checks(t, f, l, all, places(0, 1, 2, 3), api.OK)
	checks(t, f, l, all, places(0, 2, 3), api.OK)
	checks(t, f, l, all, places(2, 3), api.ErrBad)
	checks(t, f, l, all, places(3), api.ErrBad)
}

func TestNothingHandedInIsWrittenTo(t *testing.T) {
	f := cnf(4, []int{2, 1, 2}, []int{-1, 2}, []int{3, -4}, []int{1, -2, 1}, []int{-1, -2}, []int{2, 1})
	l := proof(follows(4, -4), goes(2, 1, 1), follows(2, 2), goes(2, 1), follows(1), goes(-2, 1), follows(), goes(1), follows(7))
	c := api.Core{Clauses: places(0, 1, 3, 4, 5), Steps: places(2, 4, 6)}
	asked := []int{2, -3, 2}
	before := fmt.Sprint(f, l, c, asked)
	if !Plain(f, l) {
		t.Error("Plain")
	}
	if _, e := Find(f, l); e != api.OK {
		t.Error("Find")
	}
	if Check(f, l, c) != api.OK {
		t.Error("Check")
	}
	if _, _, e := Trim(f, l, c); e != api.OK {
		t.Error("Trim")
	}
	if _, ok := Needs(f, asked); !ok {
		t.Error("Needs")
	}
	if after := fmt.Sprint(f, l, c, asked); after != before {
		t.Errorf("%s turned to %s", before, after)
	}
	// Nothing is put behind what came in, where there would be room.
	roomy := api.Cnf{Vars: 2, Clauses: append(make([][]int, 0, 9), four().Clauses...)}
	steps := append(make([]api.Step, 0, 9), follows(2), follows())
	Find(roomy, steps)
	Needs(roomy, []int{2})
	Trim(roomy, steps, api.Core{Clauses: places(0, 1, 2, 3), Steps: places(0, 1)})
	if roomy.Clauses[:5][4] != nil || steps[:3][2].Lits != nil {
		t.Error("something was put behind what came in")
	}
}

func TestAnswersAreNewMemory(t *testing.T) {
	f, l := four(), proof(follows(2), follows())
	f.Clauses[0] = append(make([]int, 0, 9), f.Clauses[0]...)
	c, _ := Find(f, l)
	d, _ := Find(f, l)
	g, s, _ := Trim(f, l, c)
	h, u, _ := Trim(f, l, c)
	n, _ := Needs(f, []int{2})
	m, _ := Needs(f, []int{2})
	before := fmt.Sprint(f, l, d, h, u, m)
	_ = append(append(c.Clauses, 7), c.Steps...)
	_ = append(append(c.Steps, 7), c.Clauses...)
	if !sameCore(c, d) {
		t.Error("the lists of a core share memory")
	}
	for _, list := range append(g.Clauses, s[0].Lits, c.Clauses, c.Steps, n) {
		_ = append(list, 99)
		for i := range list {
			list[i] = 99
		}
	}
	for i := range g.Clauses {
		if !slices.Equal(g.Clauses[i], slices.Repeat([]int{99}, len(h.Clauses[i]))) {
			t.Errorf("the lists of a formula share memory: %v", g)
		}
	}
	g.Clauses[0], s[0] = nil, goes(7)
	if after := fmt.Sprint(f, l, d, h, u, m); after != before {
		t.Errorf("%s turned to %s", before, after)
	}
}

// lists is all lists of literals of so many variables, up to a length.
func lists(vars, most int) [][]int {
	all := [][]int{nil}
	for begin := 0; most > 0; most-- {
		end := len(all)
		for _, c := range all[begin:end] {
			for l := -vars; l <= vars; l++ {
				if l != 0 {
					all = append(all, append(slices.Clone(c), l))
				}
			}
		}
		begin = end
	}
	return all
}

// sets is all clauses of so many variables without a variable twice.
func sets(vars int) [][]int {
	all := [][]int{nil}
	for v := 1; v <= vars; v++ {
		for _, c := range all {
			all = append(all, append(slices.Clone(c), v), append(slices.Clone(c), -v))
		}
	}
	return all
}

// rows calls a function with each row of these things, in each order, from none up to how many; what it is handed is its own only till it answers.
func rows[T any](things []T, most int, call func(row []T)) {
	row := make([]T, 0, most)
	var grow func()
	grow = func() {
		call(row)
		if len(row) == most {
			return
		}
		for _, x := range things {
			row = append(row, x)
			grow()
			row = row[:len(row)-1]
		}
	}
	grow()
}

// sameNeeds holds Needs against the plain way, against what is at hand by layer 7, and against its own words.
func sameNeeds(t *testing.T, f api.Cnf, c []int) {
	t.Helper()
	got, ok := Needs(f, c)
	if want, wantOK := slowNeeds(f.Clauses, c); ok != wantOK || !slices.Equal(got, want) {
		t.Fatalf("Needs(%v, %v): %v, %v; the plain way %v, %v", f, c, got, ok, want, wantOK)
	}
	if ok != rup.Unit(f, c) {
		t.Fatalf("Needs(%v, %v): %v; by layer 7 %v", f, c, ok, !ok)
	}
	for i := range got {
		if slowUnit(chosen(f.Clauses, slices.Delete(slices.Clone(got), i, i+1)), c) {
			t.Fatalf("Needs(%v, %v): %v, but %d could be left out", f, c, got, got[i])
		}
	}
}

func TestNeedsOfAllSmallFormulas(t *testing.T) {
	asked := append(lists(2, 2), []int{3}, []int{3, 1}, []int{2, -3, 2, 1})
	rows(lists(2, 2), 3, func(clauses [][]int) {
		for _, c := range asked {
			sameNeeds(t, cnf(2, clauses...), c)
		}
	})
	rows(sets(2), 4, func(clauses [][]int) {
		for _, c := range sets(2) {
			sameNeeds(t, cnf(2, clauses...), c)
		}
	})
	rows(sets(3)[1:], 3, func(clauses [][]int) {
		for _, c := range [][]int{nil, {1}, {-1, 2}, {3}, {1, 2, -3}} {
			sameNeeds(t, cnf(3, clauses...), c)
		}
	})
}

// sameProof holds Plain and Find against the plain ways, and what is found against what follows; whether it is a plain proof.
func sameProof(t *testing.T, f api.Cnf, l []api.Step, vars int) bool {
	t.Helper()
	c, e := Find(f, l)
	want, wantE := slowFind(f, l)
	if e != wantE || !sameCore(c, want) {
		t.Fatalf("Find(%v, %v): %v, %d; the plain way %v, %d", f, l, c, e, want, wantE)
	}
	if plain := Plain(f, l); plain != (wantE == api.OK) {
		t.Fatalf("Plain(%v, %v): %v", f, l, plain)
	}
	if e != api.OK {
		return false
	}
	if Check(f, l, c) != api.OK || !slowIsCore(f, l, c) {
		t.Fatalf("Find(%v, %v): %v, but that is no core", f, l, c)
	}
	g, s, e := Trim(f, l, c)
	if e != api.OK || !lit.Same(g, cnf(f.Vars, chosen(f.Clauses, c.Clauses)...)) || len(s) != len(c.Steps) {
		t.Fatalf("Trim(%v, %v, %v): %v, %v, %d", f, l, c, g, s, e)
	}
	for i, at := range c.Steps {
		if s[i].Del || !slices.Equal(s[i].Lits, l[at].Lits) {
			t.Fatalf("Trim(%v, %v, %v): %v", f, l, c, s)
		}
	}
	if n, e := rup.Proves(g, s); n != len(s)-1 || e != api.OK || !Plain(g, s) {
		t.Fatalf("Trim(%v, %v, %v): %v, %v, but that does not prove: %d, %d", f, l, c, g, s, n, e)
	}
	if hasModel(g, vars) {
		t.Fatalf("Trim(%v, %v, %v): %v, but a model makes it hold", f, l, c, g)
	}
	return true
}

func TestAllSmallProofs(t *testing.T) {
	var steps []api.Step
	for _, c := range sets(2) {
		steps = append(steps, follows(c...), goes(c...))
	}
	plain := 0
	prove := func(f api.Cnf, l []api.Step) {
		if sameProof(t, f, l, 3) {
			plain++
		}
	}
	rows(sets(2), 3, func(clauses [][]int) {
		rows(steps, 2, func(l []api.Step) { prove(cnf(2, clauses...), l) })
	})
	some := append(slices.Clone(steps), follows(1, 1), goes(2, 1), follows(-1, 1), follows(1, 3), follows(-3, 2))
	for _, f := range []api.Cnf{
		four(),
		cnf(2, []int{1, 2}, []int{-1, 2}, []int{1, -2}, []int{2, 1}, []int{-1, -2}, []int{1, -2}),
		cnf(2, []int{1}, []int{-1, 2}, []int{-2, -1}),
		cnf(2, []int{1, 2}, []int{-1}, []int{2, 1}, []int{-2}),
		cnf(2, []int{1, -1}, []int{2, 2}, []int{-2, -1}, []int{1, -2}),
	} {
		rows(some, 3, func(l []api.Step) { prove(f, append(slices.Clone(l), follows())) })
	}
	if plain < 10000 {
		t.Errorf("too few plain proofs: %d", plain)
	}
}

func TestAllSmallCores(t *testing.T) {
	for _, of := range []struct {
		f api.Cnf
		l []api.Step
	}{
		{four(), proof(follows(2), follows(1), follows(1, 2), follows())},
		{four(), proof(follows(2), follows(), follows(1), follows())},
		{example(), proof(follows(3, 2), follows(1, -1), follows(), follows(4))},
		{cnf(2, []int{1}, nil, []int{-1, 2}, []int{-2}), proof(follows(2), follows(-1), follows(), follows(2))},
		{cnf(3, []int{1, 2}, []int{1, -2}, []int{-1, 3}, []int{-1, -3}, []int{1, 2}), proof(follows(1), follows(3), follows(4, -1), follows())},
		{cnf(2, []int{1}, []int{2}), proof(follows(1), follows())},
	} {
		told := map[api.Errno]int{}
		for a := range 1 << len(of.f.Clauses) {
			for b := range 1 << len(of.l) {
				c := api.Core{Clauses: bitsOf(a), Steps: bitsOf(b)}
				want := api.OK
				if !slowIsCore(of.f, of.l, c) {
					want = api.ErrBad
				}
				checks(t, of.f, of.l, c.Clauses, c.Steps, want)
				told[want]++
				if n, e := rup.Proves(cnf(of.f.Vars, chosen(of.f.Clauses, c.Clauses)...), chosenSteps(of.l, c.Steps)); want == api.OK && e != api.OK {
					t.Errorf("%v, %v, %v: it does not prove: %d, %d", of.f, of.l, c, n, e)
				}
			}
		}
		if told[api.ErrBad] == 0 || told[api.OK] == 0 && !hasModel(of.f, of.f.Vars) {
			t.Errorf("%v, %v: none of a kind: %v", of.f, of.l, told)
		}
	}
}

// bitsOf is the places of the bits that are set.
func bitsOf(bits int) []int {
	var l []int
	for i := 0; bits>>i > 0; i++ {
		if bits>>i&1 == 1 {
			l = append(l, i)
		}
	}
	return l
}

// chosenSteps is the steps at some places.
func chosenSteps(l []api.Step, at []int) []api.Step {
	var s []api.Step
	for _, i := range at {
		s = append(s, l[i])
	}
	return s
}

// numbers is a row of numbers that look like any.
type numbers uint64

// pick is the next one, from 0 to n - 1.
func (r *numbers) pick(n int) int {
	*r = *r*6364136223846793005 + 1442695040888963407
	return int(uint64(*r>>33) % uint64(n))
}

// clause is a clause of so many variables, with up to most literals.
func (r *numbers) clause(vars, most int) []int {
	c := make([]int, r.pick(most+1))
	for i := range c {
		c[i] = 1 + r.pick(vars)
		if r.pick(2) == 0 {
			c[i] = -c[i]
		}
	}
	return c
}

// mixed is a clause's literals in another order, some of them once more.
func (r *numbers) mixed(c []int) []int {
	m := slices.Clone(c)
	for i := range m {
		j := r.pick(i + 1)
		m[i], m[j] = m[j], m[i]
		if r.pick(6) == 0 {
			m = append(m, m[j])
		}
	}
	return m
}

// formula is one of so many variables and clauses, most of which have two literals or more.
func (r *numbers) formula(vars, clauses int) api.Cnf {
	f := api.Cnf{Vars: vars}
	for range clauses {
		c := r.clause(vars, 4)
		for len(c) < 2 && r.pick(8) > 0 {
			c = append(c, r.clause(vars, 2)...)
		}
		if len(c) == 0 {
			c = []int{1 + r.pick(vars)}
		}
		f.Clauses = append(f.Clauses, c)
	}
	return f
}

// proof is one of so many steps, nearly all of which are at hand by units, with a last one without literals.
func (r *numbers) proof(f api.Cnf, steps int) []api.Step {
	var l []api.Step
	for tries := 0; len(l) < steps && tries < 20*steps; tries++ {
		s := api.Step{Lits: r.clause(f.Vars+r.pick(10)/9, 3), Del: r.pick(6) == 0}
		if s.Del && len(f.Clauses) > 0 && r.pick(5) > 0 {
			s.Lits = r.mixed(f.Clauses[r.pick(len(f.Clauses))])
		}
		if !s.Del && (len(s.Lits) == 0 || !rup.Unit(f, s.Lits)) && r.pick(400) > 0 {
			continue
		}
		if g, e := rup.Do(f, s); e == api.OK {
			f = g
		}
		l = append(l, s)
	}
	return append(l, follows())
}

func TestManyProofs(t *testing.T) {
	r := numbers(8)
	plain, not := 0, 0
	for range 6000 {
		vars := 2 + r.pick(4)
		f := r.formula(vars, 3*vars+r.pick(14))
		if sameProof(t, f, r.proof(f, 1+r.pick(16)), vars+1) {
			plain++
		} else {
			not++
		}
	}
	if plain < 1000 || not < 1000 {
		t.Errorf("too few of a kind: %d, %d", plain, not)
	}
}

func TestManyNeeds(t *testing.T) {
	r := numbers(88)
	at, not := 0, 0
	for range 4000 {
		f := r.formula(8, 5+r.pick(40))
		for range 5 {
			c := r.clause(9, 5)
			sameNeeds(t, f, c)
			if rup.Unit(f, c) {
				at++
			} else {
				not++
			}
		}
	}
	if at < 1000 || not < 1000 {
		t.Errorf("too few of a kind: %d, %d", at, not)
	}
}

func TestManyCores(t *testing.T) {
	r := numbers(888)
	told := map[api.Errno]int{}
	for range 4000 {
		vars := 2 + r.pick(4)
		f := r.formula(vars, 3*vars+r.pick(14))
		l := r.proof(f, 1+r.pick(12))
		var c api.Core
		for i := range f.Clauses {
			if r.pick(12) > 0 {
				c.Clauses = append(c.Clauses, i)
			}
		}
		for i, s := range l {
			if !s.Del && r.pick(4) > 0 {
				c.Steps = append(c.Steps, i)
			}
		}
		want := api.OK
		if !slowIsCore(f, l, c) {
			want = api.ErrBad
		}
		checks(t, f, l, c.Clauses, c.Steps, want)
		told[want]++
	}
	if told[api.OK] < 400 || told[api.ErrBad] < 400 {
		t.Errorf("too few of a kind: %v", told)
	}
}

// line is a formula by which 1 is true, of it follow 2, 3 and so on, up to vars, and that is false.
func line(vars int) api.Cnf {
	f := cnf(vars, []int{1})
	for v := 1; v < vars; v++ {
		f.Clauses = append(f.Clauses, []int{-v, v + 1})
	}
	f.Clauses = append(f.Clauses, []int{-vars})
	return f
}

func TestAllOfManyClausesNeeded(t *testing.T) {
	n := 1 << 15
	f := line(n)
	got, ok := Needs(f, nil)
	if !ok || len(got) != n+1 || !arePlaces(got, n+1) {
		t.Errorf("Needs: %d places, %v", len(got), ok)
	}
	got, ok = Needs(f, []int{n / 2})
	if !ok || len(got) != n/2 || got[n/2-1] != n/2-1 {
		t.Errorf("Needs: %d places, %v", len(got), ok)
	}
	slices.Reverse(f.Clauses)
	got, ok = Needs(f, []int{n / 2})
	if !ok || len(got) != n/2 || got[0] != n/2+1 {
		t.Errorf("Needs: %d places, %v", len(got), ok)
	}
}

func TestLongProofs(t *testing.T) {
	// What follows without any question is not found anew for each of so many steps.
	n := 1 << 16
	f := line(n)
	f.Vars = n + 2
	f.Clauses = append(f.Clauses[:n], []int{n + 1, n + 2}, []int{-n - 1, n + 2}, []int{n + 1, -n - 2}, []int{-n - 1, -n - 2})
	var l []api.Step
	for v := 2; v < n; v++ {
		l = append(l, follows(v), goes(-v, v-1))
	}
	l = append(l, follows(n+2), follows())
	if !Plain(f, l) {
		t.Error("Plain: false")
	}
	l[len(l)-3] = follows(-n)
	if Plain(f, l) {
		t.Error("Plain: true")
	}
	// Each step needs just the one ahead of it, and a clause.
	n = 1 << 11
	f = line(n)
	l = nil
	var steps []int
	for v := 2; v <= n; v++ {
		steps = append(steps, len(l))
		l = append(l, follows(v), goes(v, 1-v), goes(v-1))
	}
	steps = append(steps, len(l))
	l = append(l, follows())
	c, e := Find(f, l)
	if e != api.OK || len(c.Clauses) != n+1 || !slices.Equal(c.Steps, steps) || Check(f, l, c) != api.OK {
		t.Errorf("Find: %d clauses, %d steps, %d", len(c.Clauses), len(c.Steps), e)
	}
}
