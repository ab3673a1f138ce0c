package cdcl

import (
	"slices"

	"fathom/api"
)

// record is what was learned and what went, and what it was learned of.
type record struct {
	steps []api.Step
	// numbers is by steps the propagator's number of the clause; none: it has it not.
	numbers []int
	// sources is by steps the numbers of the learned clauses that it was learned of.
	sources [][]int32
	// now is the sources of what is learned just now.
	now []int32
	// used is by the formula's clauses whether something was learned of it.
	used []bool
	// base is by variables whether it was of use that they are true, or false, at level 0.
	base []bool
	// loose is clauses that follow, and that the propagator has not, see search.bridge.
	loose [][]int
	// whole tells that sources are not all that steps need.
	whole bool
	// lacking tells that a step is missing that others need.
	lacking bool
}

// newRecord is that of a formula of which nothing was learned.
func newRecord(f api.Cnf) record {
	return record{used: make([]bool, len(f.Clauses)), base: make([]bool, f.Vars+1)}
}

// note notes that a clause is of use for what is learned just now.
func (r *record) note(number int) {
	if number < len(r.used) {
		r.used[number] = true
		return
	}
	r.now = append(r.now, int32(number))
}

// noteBase notes that it is of use what variables of literals are at level 0.
func (r *record) noteBase(c []int) {
	for _, l := range c {
		r.base[variable(l)] = true
	}
}

// follows puts a clause that was learned behind the other steps.
func (r *record) follows(number int, c []int) {
	r.put(number, api.Step{Lits: c}, r.now)
	r.now = nil
}

// goes puts a clause that went behind the other steps.
func (r *record) goes(number int, c []int) {
	r.put(number, api.Step{Del: true, Lits: c}, nil)
}

// put puts a step behind the others.
func (r *record) put(number int, s api.Step, sources []int32) {
	r.steps = append(r.steps, s)
	r.numbers = append(r.numbers, number)
	r.sources = append(r.sources, sources)
}

// loosen puts a clause that follows behind the other steps, though the propagator has it not.
func (r *record) loosen(c []int) {
	r.follows(none, c)
	r.loose = append(r.loose, c)
}

// dropLoose lets all loose clauses go.
func (r *record) dropLoose() {
	for _, c := range r.loose {
		r.goes(none, slices.Clone(c))
	}
	r.loose = nil
}

// within is the steps, or, if they are more than that, those without which the last one would not follow.
func (r *record) within(most int) []api.Step {
	if len(r.steps) <= most || r.whole {
		return r.steps
	}
	needed := map[int32]struct{}{}
	last := len(r.steps) - 1
	for i := last; i >= 0; i-- {
		_, ok := needed[int32(r.numbers[i])]
		if i == last || ok && !r.steps[i].Del {
			for _, n := range r.sources[i] {
				needed[n] = struct{}{}
			}
		}
	}
	var steps []api.Step
	for i, s := range r.steps {
		if _, ok := needed[int32(r.numbers[i])]; ok || i == last {
			steps = append(steps, s)
		}
	}
	return steps
}

// peak is how many more clauses there are at most when steps are done.
func peak(steps []api.Step) int {
	more, most := 0, 0
	for _, s := range steps {
		if s.Del {
			more--
		} else {
			more++
		}
		most = max(most, more)
	}
	return most
}
