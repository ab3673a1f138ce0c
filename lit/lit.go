// Package lit is layer 1: literals, clauses and formulas: see shared/doc/01-lit.md.
package lit

import (
	"cmp"
	"slices"

	"fathom/api"
)

// Check tells why a clause may not be.
func Check(c []int) api.Errno {
	if !isClause(c, api.MaxVar) {
		return api.ErrArg
	}
	return api.OK
}

// CheckCnf tells why a formula may not be.
func CheckCnf(f api.Cnf) api.Errno {
	if f.Vars < 0 || f.Vars > api.MaxVar || len(f.Clauses) > api.MaxClauses {
		return api.ErrArg
	}
	for _, c := range f.Clauses {
		if !isClause(c, f.Vars) {
			return api.ErrArg
		}
	}
	return api.OK
}

// Norm is a clause in order, and whether it is a tautology.
func Norm(c []int) ([]int, bool) {
	if Check(c) != api.OK {
		return nil, false
	}
	n := inOrder(slices.Clone(c))
	for i := 1; i < len(n); i++ {
		if n[i] == -n[i-1] {
			return n, true
		}
	}
	return n, false
}

// Value is a literal's value.
func Value(m []int, l int) int {
	if !isLiteral(l, api.MaxVar) || variable(l) > len(m) {
		return 0
	}
	// By signs alone: the least number of a model has no negation.
	return cmp.Compare(m[variable(l)-1], 0) * cmp.Compare(l, 0)
}

// Clause is a clause's value.
func Clause(m []int, c []int) int {
	if Check(c) != api.OK {
		return 0
	}
	value := -1
	for _, l := range c {
		value = max(value, Value(m, l))
	}
	return value
}

// Holds tells whether a formula does.
func Holds(f api.Cnf, m []int) bool {
	if CheckCnf(f) != api.OK {
		return false
	}
clauses:
	for _, c := range f.Clauses {
		for _, l := range c {
			if Value(m, l) == 1 {
				continue clauses
			}
		}
		return false
	}
	return true
}

// Resolve is what is resolved of two clauses at a variable.
func Resolve(a, b []int, v int) ([]int, api.Errno) {
	if Check(a) != api.OK || Check(b) != api.OK || v < 1 || v > api.MaxVar {
		return nil, api.ErrArg
	}
	if !slices.Contains(a, v) || !slices.Contains(b, -v) {
		return nil, api.ErrNone
	}
	// Not by Norm: of two wide clauses more may be left than one clause may have.
	return inOrder(append(without(a, v), without(b, -v)...)), api.OK
}

// Given is a formula where a literal is true.
func Given(f api.Cnf, l int) api.Cnf {
	if CheckCnf(f) != api.OK {
		return api.Cnf{}
	}
	g := api.Cnf{Vars: f.Vars}
	// What is no literal stands in no clause of a formula: then all of them stay as they are.
clauses:
	for _, c := range f.Clauses {
		for _, k := range c {
			if k == l {
				continue clauses
			}
		}
		g.Clauses = append(g.Clauses, without(c, -l))
	}
	return g
}

// Within tells whether each number of a list is in another one.
func Within(a, b []int) bool {
	// Any numbers, and any amount of them: one by one against each other would take too long.
	sorted := slices.Clone(b)
	slices.Sort(sorted)
	for _, n := range a {
		if _, found := slices.BinarySearch(sorted, n); !found {
			return false
		}
	}
	return true
}

// Same tells whether formulas are alike.
func Same(a, b api.Cnf) bool {
	if a.Vars != b.Vars || len(a.Clauses) != len(b.Clauses) {
		return false
	}
	for i, c := range a.Clauses {
		if !slices.Equal(c, b.Clauses[i]) {
			return false
		}
	}
	return true
}

// isLiteral tells whether a number is a literal of a variable up to top.
func isLiteral(l, top int) bool {
	// Both ends are asked: the least int has no amount.
	return l != 0 && -top <= l && l <= top
}

// isClause tells whether a list is a clause of variables up to top.
func isClause(c []int, top int) bool {
	if len(c) > api.MaxWide {
		return false
	}
	for _, l := range c {
		if !isLiteral(l, top) {
			return false
		}
	}
	return true
}

// variable is a literal's variable.
func variable(l int) int {
	return max(l, -l)
}

// inOrder sorts literals in their own place, each once; they may be more than a clause's.
func inOrder(c []int) []int {
	slices.SortFunc(c, compareLiterals)
	return slices.Compact(c)
}

// compareLiterals is below 0, if a stands ahead of b in order.
func compareLiterals(a, b int) int {
	if variable(a) != variable(b) {
		return cmp.Compare(variable(a), variable(b))
	}
	return cmp.Compare(b, a)
}

// without is a new list of what is not l.
func without(c []int, l int) []int {
	rest := make([]int, 0, len(c))
	for _, k := range c {
		if k != l {
			rest = append(rest, k)
		}
	}
	return rest
}
