package learn

import (
	"math/bits"
	"slices"

	"fathom/api"
	"fathom/lit"
)

const (
	// maxTrail is how many assignments a trail has at most.
	maxTrail = 4096
	// maxReason is how many literals a reason has at most.
	maxReason = 256
	// none is the place of what is not in a trail.
	none = -1
	// mix is 2^32 by the golden ratio: variables in even steps, taken so many times, fall far apart.
	mix = 2654435769
)

// path is a trail, and where each variable stands in it.
type path struct {
	trail []api.Assign
	// slots is the places behind the literals that were read; 0: the slot is free. Where a variable is looked for, see slot. (A map would be some times slower, and each call reads the whole trail.)
	slots []int16
	// shift is how many of 32 bits do not count for a slot's number.
	shift int
}

// read is a trail's path; false, if it is no trail.
func read(trail []api.Assign) (*path, bool) {
	if len(trail) > maxTrail {
		return nil, false
	}
	p := newPath(trail)
	// As if something of level 0 stood ahead of the first one.
	level := 0
	for i, a := range trail {
		if !p.follows(a, level) {
			return nil, false
		}
		p.slots[p.slot(variable(a.Lit))] = int16(i + 1)
		level = a.Level
	}
	return p, true
}

// newPath is a path of which nothing was read.
func newPath(trail []api.Assign) *path {
	// More than two slots an assignment: rows of slots that are taken stay short, and one is always free.
	width := bits.Len(uint(2 * len(trail)))
	return &path{trail: trail, slots: make([]int16, 1<<width), shift: 32 - width}
}

// slot is the number of the slot that has a variable's place, or of the free one that would.
func (p *path) slot(v int) int {
	i := int(uint32(v) * mix >> p.shift)
	for p.slots[i] != 0 && variable(p.trail[p.slots[i]-1].Lit) != v {
		i = (i + 1) & (len(p.slots) - 1)
	}
	return i
}

// follows tells whether an assignment may stand behind those that were read, the last of which is of that level.
func (p *path) follows(a api.Assign, level int) bool {
	if lit.Check([]int{a.Lit}) != api.OK || p.place(a.Lit) != none {
		return false
	}
	switch a.Level {
	case level:
		return p.isReason(a)
	case level + 1:
		return isDecided(a)
	}
	return false
}

// isReason tells whether an assignment has a reason, by those that were read.
func (p *path) isReason(a api.Assign) bool {
	if len(a.Reason) > maxReason || !slices.Contains(a.Reason, a.Lit) {
		return false
	}
	for _, l := range a.Reason {
		if l != a.Lit && !p.isFalse(l) {
			return false
		}
	}
	return true
}

// isBroken tells whether a list is a broken clause.
func (p *path) isBroken(c []int) bool {
	return lit.Check(c) == api.OK && p.areFalse(c)
}

// areFalse tells whether the negation of each number of a list is in the trail.
func (p *path) areFalse(list []int) bool {
	for _, l := range list {
		if !p.isFalse(l) {
			return false
		}
	}
	return true
}

// isFalse tells whether a number's negation is in the trail.
func (p *path) isFalse(l int) bool {
	at := p.place(l)
	return at != none && p.trail[at].Lit == -l
}

// place is where a number's variable stands in what was read, or none.
func (p *path) place(l int) int {
	return int(p.slots[p.slot(variable(l))]) - 1
}

// level is that of a literal's variable, which is in the trail.
func (p *path) level(l int) int {
	return p.trail[p.place(l)].Level
}

// greatest is the greatest level of literals whose variables are in the trail; 0, if there are none.
func (p *path) greatest(list []int) int {
	level := 0
	for _, l := range list {
		level = max(level, p.level(l))
	}
	return level
}

// isDecided tells whether an assignment has no reason.
func isDecided(a api.Assign) bool {
	return len(a.Reason) == 0
}

// variable is a literal's variable; the least int has no amount, and stays below 0.
func variable(l int) int {
	return max(l, -l)
}
