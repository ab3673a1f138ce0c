package cdcl

import (
	"cmp"
	"iter"
	"slices"

	"fathom/api"
	"fathom/learn"
)

// maxReason is how many literals a reason has at most that layer 12 takes.
const maxReason = 256

// backwards goes through a trail from its end on.
func backwards(trail []int) iter.Seq[int] {
	return func(yield func(int) bool) {
		for i := len(trail) - 1; i >= 0; i-- {
			if !yield(trail[i]) {
				return
			}
		}
	}
}

// variable is a literal's variable.
func variable(l int) int {
	return max(l, -l)
}

// teach is what a broken clause teaches: the point, then the others by falling levels.
func (s *search) teach(trail []int, broken int) []int {
	s.lacking = false
	s.record.note(broken)
	c := s.clause(broken)
	learned, ok := s.learn(trail, c)
	if !ok {
		learned = s.resolve(trail, c)
	}
	for _, l := range learned {
		s.order.Bump(variable(l))
	}
	return s.shorten(trail, learned)
}

// clause is a clause without what is false at level 0.
func (s *search) clause(number int) []int {
	c, _ := s.p.Clause(number)
	return slices.DeleteFunc(c, func(l int) bool {
		if s.p.Level(l) != 0 {
			return false
		}
		s.record.base[variable(l)] = true
		return true
	})
}

// reason is a literal's reason, and its number; nil, if it has none.
func (s *search) reason(l int) ([]int, int) {
	number := s.p.Reason(l)
	if number == none {
		return nil, none
	}
	return s.clause(number), number
}

// learn is what is learned by layer 12; false, if it does not take it: too much hangs on it, a reason is too wide, or something was forced.
func (s *search) learn(trail, broken []int) ([]int, bool) {
	if s.forces > 0 {
		return nil, false
	}
	part, numbers := s.lastLevel(trail, broken)
	c, e := learn.Learn(part, broken)
	if e != api.OK {
		return nil, false
	}
	for i, number := range numbers {
		if number != none {
			s.record.note(number)
			s.order.Bump(variable(part[i].Lit))
		}
	}
	return c, true
}

// lastLevel is what a broken clause hangs on in the last level, from the point on, as a trail; ahead of that what it hangs on in other levels. The point and these stand there as if they were decided: what they hang on does not matter. And by places the numbers of the reasons.
func (s *search) lastLevel(trail, broken []int) ([]api.Assign, []int) {
	top := s.p.Levels()
	var others []int
	left := 0
	s.seen.clear()
	need := func(c []int) {
		for _, l := range c {
			switch {
			case !s.seen.add(variable(l)):
			case s.p.Level(l) == top:
				left++
			default:
				others = append(others, -l)
			}
		}
	}
	need(broken)
	var part []api.Assign
	var numbers []int
	for l := range backwards(trail) {
		if left == 0 {
			break
		}
		if !s.seen.has(variable(l)) {
			continue
		}
		a, number := api.Assign{Lit: l}, none
		if left > 1 {
			a.Reason, number = s.reason(l)
			need(a.Reason)
		}
		left--
		part = append(part, a)
		numbers = append(numbers, number)
	}
	slices.SortFunc(others, s.compareLevels)
	for _, l := range others {
		part = append(part, api.Assign{Lit: l})
		numbers = append(numbers, none)
	}
	slices.Reverse(numbers)
	return asTrail(part), numbers
}

// compareLevels is below 0, if a literal is of a greater level than another one, or of the same one and of a lesser variable.
func (s *search) compareLevels(a, b int) int {
	return cmp.Or(cmp.Compare(s.p.Level(b), s.p.Level(a)), cmp.Compare(variable(a), variable(b)))
}

// asTrail is assignments, that stand from the last one on, as layer 12 takes them: each one without a reason begins a level.
func asTrail(part []api.Assign) []api.Assign {
	slices.Reverse(part)
	level := 0
	for i, a := range part {
		if len(a.Reason) == 0 {
			level++
		}
		part[i].Level = level
	}
	return part
}

// shorten is what was learned without what is idle.
func (s *search) shorten(trail, learned []int) []int {
	s.seen.clear()
	s.levels.clear()
	for _, l := range learned {
		s.seen.add(variable(l))
		s.levels.add(s.p.Level(l))
	}
	left := len(learned)
	var part []api.Assign
	for l := range backwards(trail) {
		if left == 0 {
			break
		}
		if !s.seen.has(variable(l)) {
			continue
		}
		left--
		// The first one is the point, which stays.
		var reason []int
		if len(part) > 0 {
			reason = s.reasonWithin(l)
		}
		for _, k := range reason {
			if s.seen.add(variable(k)) {
				left++
			}
		}
		part = append(part, api.Assign{Lit: l, Reason: reason})
	}
	return learn.Shorten(asTrail(part), learned)
}

// reasonWithin is a literal's reason, if its literals are of no levels but those that are marked: else its negation can't be idle. (Nor is it, if layer 12 would not take the reason.)
func (s *search) reasonWithin(l int) []int {
	reason, number := s.reason(l)
	isOutside := func(k int) bool { return !s.levels.has(s.p.Level(k)) }
	if number == none || len(reason) > maxReason || slices.ContainsFunc(reason, isOutside) {
		return nil
	}
	s.record.note(number)
	return reason
}

// resolve is what is learned where layer 12 does not take it: of what is left the last one goes for the others of its reason, till it is the only one of its level, and all that was forced upon that.
func (s *search) resolve(trail, broken []int) []int {
	bases := s.bases()
	counts := make([]int, len(bases))
	s.seen.clear()
	need := func(c []int) {
		for _, l := range c {
			if s.seen.add(variable(l)) {
				counts[bases[s.p.Level(l)]]++
			}
		}
	}
	need(broken)
	for l := range backwards(trail) {
		if !s.seen.has(variable(l)) {
			continue
		}
		level := s.p.Level(l)
		// What was forced upon level 0 is so for good: there none is left.
		if bases[level] > 0 && counts[bases[level]] == 1 {
			break
		}
		reason, number := s.reason(l)
		if number == none {
			s.bridge(trail, s.forced[level-1])
			reason = s.forced[level-1].clause
		} else {
			s.record.note(number)
		}
		need(reason)
		s.seen.remove(variable(l))
		counts[bases[level]]--
		s.order.Bump(variable(l))
	}
	return s.unresolved(trail)
}

// bases is by levels the last one up to it that was not forced.
func (s *search) bases() []int {
	bases := make([]int, s.p.Levels()+1)
	for i, f := range s.forced {
		bases[i+1] = i + 1
		if f.clause != nil {
			bases[i+1] = bases[i]
		}
	}
	return bases
}

// unresolved is the negations of what is marked, from the trail's end on.
func (s *search) unresolved(trail []int) []int {
	var c []int
	for l := range backwards(trail) {
		if s.seen.has(variable(l)) {
			c = append(c, -l)
		}
	}
	return c
}

// bridge tells as a step what is learned so far, ahead of something forced going for its clause: by that step it comes to be false by units, and then something is broken, as when its clause was learned.
func (s *search) bridge(trail []int, f forced) {
	c := s.unresolved(trail)
	if f.lacking || len(c) > s.limits.wide || !s.hasRoom() {
		s.lacking = true
	}
	if !s.lacking {
		s.record.loosen(c)
	}
}
