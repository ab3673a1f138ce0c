package learn

import (
	"slices"

	"fathom/api"
)

// The chapters' numbers, written out once more: a test by the package's own would follow whatever they turn to.
const (
	theTrail  = 4096
	theReason = 256
	theVar    = 1 << 20
	theWide   = 4096
)

// What stands here does just what the chapter's words say, word by word, and is slow.

// plainPlace is where a literal stands in a trail; -1: nowhere.
func plainPlace(trail []api.Assign, l int) int {
	return slices.IndexFunc(trail, func(a api.Assign) bool { return a.Lit == l })
}

// plainVariable is where a variable's literal stands in a trail; -1: nowhere.
func plainVariable(trail []api.Assign, l int) int {
	return max(plainPlace(trail, l), plainPlace(trail, -l))
}

// plainNegations tells whether the negation of each number is in a trail.
func plainNegations(trail []api.Assign, list []int) bool {
	for _, l := range list {
		if plainPlace(trail, -l) < 0 {
			return false
		}
	}
	return true
}

// plainOthers is the literals of a reason but the one that it is the reason of.
func plainOthers(a api.Assign) []int {
	return slices.DeleteFunc(slices.Clone(a.Reason), func(l int) bool { return l == a.Lit })
}

// plainReason tells whether an assignment has a reason, by what is ahead of it.
func plainReason(ahead []api.Assign, a api.Assign) bool {
	return len(a.Reason) <= theReason && slices.Contains(a.Reason, a.Lit) && plainNegations(ahead, plainOthers(a))
}

// plainMayStand tells whether an assignment may stand behind a trail.
func plainMayStand(ahead []api.Assign, a api.Assign) bool {
	if a.Lit == 0 || a.Lit < -theVar || a.Lit > theVar || plainVariable(ahead, a.Lit) >= 0 {
		return false
	}
	if len(ahead) == 0 && a.Level != 0 && a.Level != 1 {
		return false
	}
	if n := len(ahead); n > 0 && a.Level != ahead[n-1].Level && a.Level != ahead[n-1].Level+1 {
		return false
	}
	isFirst := !slices.ContainsFunc(ahead, func(b api.Assign) bool { return b.Level == a.Level })
	if isFirst && a.Level > 0 {
		return len(a.Reason) == 0
	}
	return plainReason(ahead, a)
}

// plainTrail tells whether a list is a trail.
func plainTrail(trail []api.Assign) bool {
	if len(trail) > theTrail {
		return false
	}
	for i, a := range trail {
		if !plainMayStand(trail[:i], a) {
			return false
		}
	}
	return true
}

// plainLevel is the greatest level of the variables of literals, which are in the trail.
func plainLevel(trail []api.Assign, list []int) int {
	level := 0
	for _, l := range list {
		level = max(level, trail[plainVariable(trail, l)].Level)
	}
	return level
}

// plainOnce is a list with each of its numbers once.
func plainOnce(list []int) []int {
	once := slices.Clone(list)
	slices.Sort(once)
	return slices.Compact(once)
}

// plainLast is of those literals that are of a level the one that stands last in the trail, and how many there are.
func plainLast(trail []api.Assign, list []int, level int) (int, int) {
	last, count := -1, 0
	for _, l := range list {
		if at := plainPlace(trail, -l); trail[at].Level == level {
			last = max(last, at)
			count++
		}
	}
	return last, count
}

// plainLearn is what is learned.
func plainLearn(trail []api.Assign, broken []int) ([]int, api.Errno) {
	if !plainTrail(trail) || len(broken) > theWide || !plainNegations(trail, broken) {
		return nil, api.ErrArg
	}
	learned := plainOnce(broken)
	level := plainLevel(trail, broken)
	for {
		last, count := plainLast(trail, learned, level)
		if count == 0 || level > 0 && count == 1 {
			break
		}
		a := trail[last]
		learned = slices.DeleteFunc(learned, func(l int) bool { return l == -a.Lit })
		learned = plainOnce(append(learned, plainOthers(a)...))
	}
	return plainSorted(trail, learned), api.OK
}

// plainSorted is literals by falling levels, of one level by their variables.
func plainSorted(trail []api.Assign, list []int) []int {
	var sorted []int
	for level := plainLevel(trail, list); level >= 0; level-- {
		var of []int
		for _, l := range list {
			if plainLevel(trail, []int{l}) == level {
				of = append(of, l)
			}
		}
		slices.SortFunc(of, func(a, b int) int { return max(a, -a) - max(b, -b) })
		sorted = append(sorted, of...)
	}
	return sorted
}

// plainIdle tells whether a literal is idle in what was learned.
func plainIdle(trail []api.Assign, learned []int, l int) bool {
	a := trail[plainPlace(trail, -l)]
	if l == learned[0] || len(a.Reason) == 0 {
		return false
	}
	for _, k := range plainOthers(a) {
		isOfLevel0 := plainLevel(trail, []int{k}) == 0
		if !isOfLevel0 && !slices.Contains(learned, k) && !plainIdle(trail, learned, k) {
			return false
		}
	}
	return true
}

// plainShorten is what was learned, shortened.
func plainShorten(trail []api.Assign, learned []int) []int {
	if !plainTrail(trail) || !plainNegations(trail, learned) {
		return slices.Clone(learned)
	}
	var short []int
	for _, l := range learned {
		isPoint := l == learned[0]
		isOfLevel0 := plainLevel(trail, []int{l}) == 0
		if isPoint || !isOfLevel0 && !plainIdle(trail, learned, l) {
			short = append(short, l)
		}
	}
	return short
}

// plainBack is the greatest level but the first one's.
func plainBack(trail []api.Assign, learned []int) int {
	if !plainTrail(trail) || len(learned) == 0 || !plainNegations(trail, learned) {
		return -1
	}
	return plainLevel(trail, learned[1:])
}

// plainLevels is of how many levels the literals are.
func plainLevels(trail []api.Assign, c []int) int {
	if !plainTrail(trail) {
		return 0
	}
	var levels []int
	for _, l := range c {
		if at := plainVariable(trail, l); at >= 0 {
			levels = append(levels, trail[at].Level)
		}
	}
	return len(plainOnce(levels))
}
