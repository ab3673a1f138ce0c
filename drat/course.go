package drat

import (
	"slices"

	"fathom/api"
	"fathom/lit"
)

// none is the number of no clause.
const none = -1

// course is a formula, and what the steps of a proof turn. Clauses have numbers: the formula's their places, and those of steps that follow the ones behind, one by one.
type course struct {
	formula api.Cnf
	// steps is those up to the one without literals, or all, if there is no such one.
	steps []api.Step
	// turns is, of each step, the number of the clause that comes or goes by it; none: nothing turns.
	turns []int
}

// newCourse is the course of a proof.
func newCourse(f api.Cnf, l []api.Step) course {
	if end := slices.IndexFunc(l, isEnd); end >= 0 {
		l = l[:end+1]
	}
	k := course{formula: f, steps: l, turns: make([]int, len(l))}
	alike := map[string][]int{}
	next := 0
	come := func(name string) {
		alike[name] = append(alike[name], next)
		next++
	}
	for _, c := range f.Clauses {
		come(common(c))
	}
	for i, s := range l {
		name := common(s.Lits)
		switch list := alike[name]; {
		case !s.Del:
			k.turns[i] = next
			come(name)
		case len(list) > 0:
			k.turns[i] = list[0]
			alike[name] = list[1:]
		default:
			k.turns[i] = none
		}
	}
	return k
}

// isPlain tells whether it is a plain proof's.
func (k course) isPlain() bool {
	if !slices.ContainsFunc(k.steps, isEnd) {
		return false
	}
	a := newAsker(k.formula, k.steps)
	for i, s := range k.steps {
		if s.Del {
			a.drop(k.turns[i])
		} else if !a.isAtHand(s.Lits) || !a.add(s.Lits) {
			return false
		}
	}
	return true
}

// core is the core of a plain proof, as Find tells it.
func (k course) core() api.Core {
	needed := k.needed()
	var c api.Core
	for i := range k.formula.Clauses {
		if _, ok := needed[i]; ok {
			c.Clauses = append(c.Clauses, i)
		}
	}
	for i, s := range k.steps {
		if _, ok := needed[k.turns[i]]; ok && !s.Del {
			c.Steps = append(c.Steps, i)
		}
	}
	return c
}

// needed is the numbers of the clauses that are needed, found from the end on backwards.
func (k course) needed() map[int]struct{} {
	v := newSieve(k.atEnd())
	needed := map[int]struct{}{k.turns[len(k.turns)-1]: {}}
	for i, s := range slices.Backward(k.steps) {
		n := k.turns[i]
		if n == none {
			continue
		}
		// Ahead of the step, what goes by it is still there, and what follows by it is not there yet.
		v.there[n] = s.Del
		if _, ok := needed[n]; s.Del || !ok {
			continue
		}
		more, _ := v.needs(n)
		for _, m := range more {
			needed[m] = struct{}{}
		}
	}
	return needed
}

// atEnd is all clauses by their numbers, and whether they are there when all steps are done.
func (k course) atEnd() ([][]int, []bool) {
	clauses := slices.Clone(k.formula.Clauses)
	for _, s := range k.steps {
		if !s.Del {
			clauses = append(clauses, s.Lits)
		}
	}
	there := allThere(clauses)
	for i, s := range k.steps {
		if s.Del && k.turns[i] != none {
			there[k.turns[i]] = false
		}
	}
	return clauses, there
}

// allThere is that each of these clauses is there.
func allThere(clauses [][]int) []bool {
	return slices.Repeat([]bool{true}, len(clauses))
}

// common is a text that just the clauses with the same literals have.
func common(c []int) string {
	inOrder, _ := lit.Norm(c)
	text := make([]byte, 0, 3*len(inOrder))
	for _, l := range inOrder {
		// Literals have 22 bits at most.
		text = append(text, byte(l), byte(l>>8), byte(l>>16))
	}
	return string(text)
}
