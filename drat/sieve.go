package drat

import "fathom/lit"

// sieve finds of which clauses others are at hand by units. For one question clauses count, and do so no more, many times: layer 6 would have to add and drop them each time; here a limit turns, and what few are kept.
type sieve struct {
	// clauses is by their numbers, each literal once. The first two literals are watched, whether the clause counts or not: while neither is false, it is neither unit nor broken.
	clauses [][]int
	// there is whether a clause may count at all, and may turn between questions; those count whose numbers are below limit, and those that are kept.
	there []bool
	limit int
	kept  []bool
	// isTight is whether all literals of a clause but one, or all, came to be false, and tight is the numbers of those, in order; clauses with less than two literals are so from the beginning.
	isTight []bool
	tight   []int
	// watching is the numbers of the clauses that watch a literal, and values is 1, -1 or 0, both by literals, see at.
	watching [][]int
	values   []int8
	vars     int
	// trail is the literals that are true, in order, and head is how many of them were gone through.
	trail []int
	head  int
}

// mark is how far a sieve was: as many literals and tight clauses, all gone through, and that limit.
type mark struct {
	trail, tight, limit int
}

// newSieve is one of clauses, of which these are there.
func newSieve(clauses [][]int, there []bool) *sieve {
	v := &sieve{there: there, kept: make([]bool, len(clauses)), isTight: make([]bool, len(clauses))}
	for _, c := range clauses {
		once, _ := lit.Norm(c)
		v.clauses = append(v.clauses, once)
		v.vars = max(v.vars, greatest(c))
	}
	v.watching = make([][]int, 2*v.vars+1)
	v.values = make([]int8, 2*v.vars+1)
	for n, c := range v.clauses {
		if len(c) < 2 {
			v.tighten(n)
			continue
		}
		v.watch(n, c[0])
		v.watch(n, c[1])
	}
	return v
}

// needs is the numbers of clauses ahead of clause n, rising, of which it is at hand by units, if from the last one on each is left out that can be; false, if it is not at hand of all of them.
func (v *sieve) needs(n int) ([]int, bool) {
	defer v.back(v.mark())
	if v.suppose(v.clauses[n]) {
		return nil, true
	}
	if !v.suffice(n) {
		return nil, false
	}
	return v.narrow(0, n), true
}

// suppose lets all literals of a clause be false; true, if it is a tautology.
func (v *sieve) suppose(c []int) bool {
	for _, l := range c {
		if v.value(l) == 1 {
			return true
		}
		v.put(-l)
	}
	return v.spread()
}

// suffice tells whether a clause comes to be broken if all below a limit count.
func (v *sieve) suffice(limit int) bool {
	defer v.back(v.mark())
	return v.raise(limit)
}

// narrow is what is needed of the clauses from number from to the one ahead of to, where all ahead of them count, and do not suffice, but would with these. To leave out one by one, from the last one on, is to do so with the second half while all of the first half counts, and then with the first half while what is left of the second one is kept: so of what is not needed whole halves go at once.
func (v *sieve) narrow(from, to int) []int {
	if to-from == 1 {
		return []int{from}
	}
	middle := from + (to-from)/2
	second := v.narrowSecond(middle, to)
	first := v.narrowFirst(from, middle, second)
	return append(first, second...)
}

// narrowSecond is what is needed of these clauses, while all ahead of them count.
func (v *sieve) narrowSecond(from, to int) []int {
	defer v.back(v.mark())
	if v.raise(from) {
		return nil
	}
	return v.narrow(from, to)
}

// narrowFirst is what is needed of these clauses, while some behind them are kept.
func (v *sieve) narrowFirst(from, to int, kept []int) []int {
	defer v.back(v.mark())
	defer v.release(kept)
	if v.keep(kept) {
		return nil
	}
	return v.narrow(from, to)
}

// raise lets all clauses below a limit count, and what follows follow; true, if one of them comes to be broken: then not all is gone through, and must be taken back.
func (v *sieve) raise(limit int) bool {
	from := v.limit
	v.limit = limit
	for n := from; n < limit; n++ {
		if v.isTight[n] && v.there[n] && v.isBroken(n) {
			return true
		}
	}
	return v.spread()
}

// keep lets clauses be kept, and what follows follow, as raise does.
func (v *sieve) keep(numbers []int) bool {
	for _, n := range numbers {
		v.kept[n] = true
		if v.isTight[n] && v.isBroken(n) {
			return true
		}
	}
	return v.spread()
}

// release lets clauses be kept no more.
func (v *sieve) release(numbers []int) {
	for _, n := range numbers {
		v.kept[n] = false
	}
}

// counts tells whether a clause does so now.
func (v *sieve) counts(n int) bool {
	return v.kept[n] || n < v.limit && v.there[n]
}

// spread lets what follows from the trail follow; true, if a clause that counts comes to be broken.
func (v *sieve) spread() bool {
	for v.head < len(v.trail) {
		v.head++
		if v.visit(-v.trail[v.head-1]) {
			return true
		}
	}
	return false
}

// visit goes through the clauses that watch a literal that is false; true, if one that counts is broken.
func (v *sieve) visit(l int) bool {
	list := v.watching[v.at(l)]
	still := list[:0]
	broken := false
	for i, n := range list {
		if v.watchAnother(n, l) {
			continue
		}
		still = append(still, n)
		v.tighten(n)
		if v.counts(n) && v.isBroken(n) {
			still = append(still, list[i+1:]...)
			broken = true
			break
		}
	}
	v.watching[v.at(l)] = still
	return broken
}

// watchAnother lets a clause watch another literal than one that is false; false, if all others are false, too, but for the other one that it watches.
func (v *sieve) watchAnother(n, l int) bool {
	c := v.clauses[n]
	if c[0] == l {
		c[0], c[1] = c[1], c[0]
	}
	for i := 2; i < len(c); i++ {
		if v.value(c[i]) >= 0 {
			c[1], c[i] = c[i], c[1]
			v.watch(n, c[1])
			return true
		}
	}
	return false
}

// isBroken tells whether a tight clause is broken; if it is unit, its literal is true from here on.
func (v *sieve) isBroken(n int) bool {
	c := v.clauses[n]
	for _, l := range c[:min(2, len(c))] {
		switch v.value(l) {
		case 1:
			return false
		case 0:
			v.put(l)
			return false
		}
	}
	return true
}

// tighten notes that a clause is tight.
func (v *sieve) tighten(n int) {
	if !v.isTight[n] {
		v.isTight[n] = true
		v.tight = append(v.tight, n)
	}
}

// watch notes that a clause watches a literal.
func (v *sieve) watch(n, l int) {
	v.watching[v.at(l)] = append(v.watching[v.at(l)], n)
}

// put lets an open literal be true.
func (v *sieve) put(l int) {
	v.values[v.at(l)], v.values[v.at(-l)] = 1, -1
	v.trail = append(v.trail, l)
}

// mark is how far it is now; all that is true must be gone through.
func (v *sieve) mark() mark {
	return mark{trail: len(v.trail), tight: len(v.tight), limit: v.limit}
}

// back takes back what came since a mark. What is watched stays: literals that came to be false together come to be open together.
func (v *sieve) back(m mark) {
	for _, l := range v.trail[m.trail:] {
		v.values[v.at(l)], v.values[v.at(-l)] = 0, 0
	}
	v.trail = v.trail[:m.trail]
	for _, n := range v.tight[m.tight:] {
		v.isTight[n] = false
	}
	v.tight = v.tight[:m.tight]
	v.head = m.trail
	v.limit = m.limit
}

// value is a literal's value.
func (v *sieve) value(l int) int8 {
	return v.values[v.at(l)]
}

// at is a literal's place in what is by literals.
func (v *sieve) at(l int) int {
	return v.vars + l
}
