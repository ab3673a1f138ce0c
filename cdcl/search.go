package cdcl

import (
	"slices"

	"fathom/api"
	"fathom/heap"
	"fathom/luby"
	"fathom/prop"
	"fathom/reduce"
)

const (
	// none is the number of no clause.
	none = -1
	// maxTimes is up to how many times layer 13 tells a quota.
	maxTimes = 100
)

// limits is what formulas, clauses and proofs may have at most.
type limits struct {
	clauses, wide, steps int
}

// limitsBelow is what the layers below take.
func limitsBelow() limits {
	return limits{clauses: api.MaxClauses, wide: api.MaxWide, steps: api.MaxSteps}
}

// lesson is a clause that was learned, and that the propagator has.
type lesson struct {
	number, levels, size int
}

// forced is why a literal had to be true: a clause that was learned, but that is too wide to be held, or has no room.
type forced struct {
	clause []int
	// lacking tells that a step is missing by which the clause would follow.
	lacking bool
}

// search is a search of a formula.
type search struct {
	limits   limits
	settings api.Settings
	formula  api.Cnf
	// left is clauses that were left out of the formula.
	left [][]int
	// room is how many clauses there may be beside the formula's.
	room  int
	told  api.Solved
	p     *prop.Prop
	order *heap.Heap
	pace  api.Pace
	// signs is by variables what they were last: 1, or -1.
	signs []int
	held  []lesson
	// grown tells whether it has grown since it was asked whether clauses must go.
	grown bool
	// first and times tell the quota.
	first, times int
	// forced is by levels why the literal that began it had to be true; without a clause: it was decided.
	forced []forced
	// forces is how many of them were forced.
	forces int
	// lacking tells that a step is missing by which what was learned last would follow.
	lacking bool
	// seen and levels are marks of variables, and of levels.
	seen, levels marks
	record       record
}

// newSearch is one of a formula; so much room beside its clauses is spared.
func newSearch(f api.Cnf, s api.Settings, l limits, spared int) *search {
	w := &search{
		limits:   l,
		settings: s,
		formula:  f,
		room:     l.clauses - len(f.Clauses) - spared,
		signs:    slices.Repeat([]int{-1}, f.Vars+1),
		first:    s.Learnt,
		seen:     newMarks(f.Vars),
		levels:   newMarks(f.Vars),
		record:   newRecord(f),
	}
	w.p, _ = prop.New(f)
	w.order, _ = heap.New(f.Vars)
	w.pace, _ = luby.Start(s.Unit)
	return w
}

// run searches till it is told, or the budget is used up.
func (s *search) run() (int, api.Errno) {
	for {
		broken := s.p.Run()
		switch {
		case broken == none:
			s.letGo()
			if !s.decide() {
				return api.Sat, api.OK
			}
		case s.p.Levels() == 0:
			s.record.note(broken)
			s.clause(broken)
			s.end()
			return api.Unsat, api.OK
		case s.told.Conflicts == s.settings.Budget:
			return api.Open, api.ErrOut
		default:
			s.told.Conflicts++
			if !s.turn(broken) {
				s.end()
				return api.Unsat, api.OK
			}
		}
	}
}

// decide decides the best variable that is open; false, if none is.
func (s *search) decide() bool {
	for {
		v, ok := s.order.Pop()
		if !ok {
			return false
		}
		if s.p.Decide(v*s.signs[v]) == api.OK {
			s.forced = append(s.forced, forced{})
			s.told.Decisions++
			return true
		}
	}
}

// turn learns of a broken clause, and goes back; false, if what is learned has no literals.
func (s *search) turn(broken int) bool {
	trail := s.p.Trail()
	c := s.teach(trail, broken)
	s.order.Decay()
	pace, anew := luby.Tick(s.pace)
	s.pace = pace
	if len(c) == 0 {
		s.record.lacking = s.lacking
		return false
	}
	levels := s.countLevels(c)
	rest := s.back(trail, s.levelBehind(c))
	if anew {
		s.back(rest, 0)
		s.told.Restarts++
	}
	switch {
	case !s.lacking && len(c) <= s.limits.wide && s.hasRoom():
		s.hold(c, levels)
	case !anew:
		// Begun anew it would be forgotten; as paces grow without end, all is told in one of them at last.
		s.force(c)
	}
	if s.forces == 0 {
		s.record.dropLoose()
	}
	return true
}

// countLevels is of how many levels literals are.
func (s *search) countLevels(c []int) int {
	s.levels.clear()
	count := 0
	for _, l := range c {
		if s.levels.add(s.p.Level(l)) {
			count++
		}
	}
	return count
}

// levelBehind is the level that is gone back to: the greatest one behind the point, and all that were forced upon it.
func (s *search) levelBehind(c []int) int {
	level := 0
	for _, l := range c[1:] {
		level = max(level, s.p.Level(l))
	}
	// What was forced would be lost, and the search might go round and round.
	for level < len(s.forced) && s.forced[level].clause != nil {
		level++
	}
	return level
}

// back takes levels back; what is left of the trail.
func (s *search) back(trail []int, level int) []int {
	left := len(trail)
	for l := range backwards(trail) {
		if s.p.Level(l) <= level {
			break
		}
		left--
		v := variable(l)
		s.signs[v] = l / v
		s.order.Push(v)
	}
	s.p.Back(level)
	for _, f := range s.forced[level:] {
		if f.clause != nil {
			s.forces--
		}
	}
	s.forced = slices.Delete(s.forced, level, len(s.forced))
	return trail[:left]
}

// hasRoom tells whether there may be a clause more.
func (s *search) hasRoom() bool {
	return len(s.held)+len(s.record.loose) < s.room
}

// hold lets the propagator have what was learned.
func (s *search) hold(c []int, levels int) {
	number, _ := s.p.Add(c)
	s.held = append(s.held, lesson{number: number, levels: levels, size: len(c)})
	s.grown = true
	s.record.follows(number, c)
}

// force lets the point be true of what was learned and is not held, as all the others are false.
func (s *search) force(c []int) {
	s.p.Decide(c[0])
	s.forced = append(s.forced, forced{clause: c, lacking: s.lacking})
	s.forces++
	s.record.whole = true
}

// letGo lets learned clauses go, if some must.
func (s *search) letGo() {
	// What forced clauses were learned of must stay: no step tells that they follow.
	if !s.grown || s.forces > 0 {
		return
	}
	s.grown = false
	if s.hasRoom() && !reduce.Due(len(s.held), s.first, s.times) {
		return
	}
	s.raiseQuota()
	stays := reduce.Keep(s.learnt())
	kept := s.held[:0]
	for i, h := range s.held {
		if stays[i] {
			kept = append(kept, h)
			continue
		}
		c, _ := s.p.Clause(h.number)
		s.p.Drop(h.number)
		s.record.goes(h.number, c)
		s.told.Dropped++
	}
	s.held = kept
}

// learnt is what is held, as layer 13 takes it.
func (s *search) learnt() []api.Learnt {
	reasons := map[int]struct{}{}
	for _, l := range s.p.Trail() {
		reasons[s.p.Reason(l)] = struct{}{}
	}
	list := make([]api.Learnt, len(s.held))
	for i, h := range s.held {
		_, locked := reasons[h.number]
		list[i] = api.Learnt{Levels: h.levels, Size: h.size, Locked: locked}
	}
	return list
}

// raiseQuota lets the quota be that of one time more.
func (s *search) raiseQuota() {
	if s.times == maxTimes {
		// Layer 13 counts no further: what the quota is now, it begins with.
		s.first, s.times = reduce.Quota(s.first, s.times), 0
	}
	s.times++
}

// end puts the step without literals behind the others.
func (s *search) end() {
	// What is of use at level 0 hangs on what is ahead of it.
	for l := range backwards(s.p.Trail()) {
		if s.record.base[variable(l)] {
			number := s.p.Reason(l)
			s.record.note(number)
			c, _ := s.p.Clause(number)
			s.record.noteBase(c)
		}
	}
	s.record.follows(none, nil)
	s.record.lacking = s.record.lacking || len(s.held)+len(s.record.loose) > s.room
}

// model is what all variables are.
func (s *search) model() []int {
	m := make([]int, s.formula.Vars)
	for i := range m {
		m[i] = s.p.Value(i + 1)
	}
	return m
}

// proof is what was learned, and what went; ahead of it as much of what was left out goes as there must be room.
func (s *search) proof() []api.Step {
	steps := s.record.within(s.limits.steps)
	over := len(s.formula.Clauses) + len(s.left) + peak(steps) - s.limits.clauses
	var proof []api.Step
	for _, c := range s.left[:min(max(over, 0), len(s.left))] {
		proof = append(proof, api.Step{Del: true, Lits: slices.Clone(c)})
	}
	return append(proof, steps...)
}

// leaveOut is a search of the clauses alone that were of use, if there are others.
func (s *search) leaveOut() (*search, bool) {
	f := api.Cnf{Vars: s.formula.Vars}
	left := s.left
	for i, c := range s.formula.Clauses {
		if s.record.used[i] {
			f.Clauses = append(f.Clauses, c)
		} else {
			left = append(left, c)
		}
	}
	if len(left) == len(s.left) {
		return s, false
	}
	w := newSearch(f, s.settings, s.limits, 1)
	w.left = left
	w.told = s.told
	return w, true
}

// forbid forbids the model that was found; false, if there is no other one.
func (s *search) forbid() bool {
	trail := s.p.Trail()
	var c []int
	// All the others follow by what was decided.
	for l := range backwards(trail) {
		if s.p.Reason(l) == none && s.forced[s.p.Level(l)-1].clause == nil {
			c = append(c, -l)
		}
	}
	if len(c) == 0 {
		return false
	}
	s.back(trail, s.p.Level(c[0])-1)
	s.p.Add(c)
	return true
}
