package learn

import (
	"fmt"
	"math"
	"slices"
	"testing"

	"fathom/api"
	"fathom/lit"
)

// decided is an assignment that was decided.
func decided(l, level int) api.Assign {
	return api.Assign{Lit: l, Level: level}
}

// by is an assignment whose reason is its literal and, behind it, others.
func by(l, level int, others ...int) api.Assign {
	return api.Assign{Lit: l, Level: level, Reason: append([]int{l}, others...)}
}

// because is an assignment with just that reason.
func because(l, level int, reason ...int) api.Assign {
	return api.Assign{Lit: l, Level: level, Reason: reason}
}

// trailOf is a trail of assignments.
func trailOf(all ...api.Assign) []api.Assign {
	return all
}

// negations is the negations of the numbers from first to last.
func negations(first, last int) []int {
	var list []int
	for l := first; l <= last; l++ {
		list = append(list, -l)
	}
	return list
}

// backwards is a list from its end on.
func backwards(list []int) []int {
	back := slices.Clone(list)
	slices.Reverse(back)
	return back
}

// copied is a trail that shares nothing with what it is copied from.
func copied(trail []api.Assign) []api.Assign {
	c := slices.Clone(trail)
	for i := range c {
		c[i].Reason = slices.Clone(c[i].Reason)
	}
	return c
}

// isSameTrail tells whether trails are alike.
func isSameTrail(a, b []api.Assign) bool {
	return slices.EqualFunc(a, b, func(x, y api.Assign) bool {
		return x.Lit == y.Lit && x.Level == y.Level && slices.Equal(x.Reason, y.Reason)
	})
}

// brief is a trail, or a list, as a text that is not too long.
func brief(x any) string {
	text := fmt.Sprintf("%v", x)
	return text[:min(len(text), 300)]
}

// told is what all calls tell of a trail and a list.
type told struct {
	check   api.Errno
	learned []int
	errno   api.Errno
	short   []int
	back    int
	levels  int
}

// ask is what the calls tell.
func ask(trail []api.Assign, list []int) told {
	x := told{check: Check(trail, list), short: Shorten(trail, list), back: Back(trail, list), levels: Levels(trail, list)}
	x.learned, x.errno = Learn(trail, list)
	return x
}

// askPlain is what a plain way tells.
func askPlain(trail []api.Assign, list []int) told {
	x := told{short: plainShorten(trail, list), back: plainBack(trail, list), levels: plainLevels(trail, list)}
	x.learned, x.errno = plainLearn(trail, list)
	x.check = x.errno
	return x
}

// isSame tells whether the same is told.
func (x told) isSame(y told) bool {
	return x.check == y.check && x.errno == y.errno && x.back == y.back && x.levels == y.levels &&
		slices.Equal(x.learned, y.learned) && slices.Equal(x.short, y.short)
}

// tells fails unless the calls tell this, each time, and turn nothing that they are handed.
func tells(t *testing.T, trail []api.Assign, list []int, want told) {
	t.Helper()
	trailAhead, listAhead := copied(trail), slices.Clone(list)
	for range 2 {
		got := ask(trail, list)
		if !got.isSame(want) {
			t.Fatalf("of %s and %s: %s, not %s", brief(trail), brief(list), brief(got), brief(want))
		}
		// Written over, so that an answer that shares memory with what was handed in turns that.
		clear(got.learned)
		clear(got.short)
		if !isSameTrail(trail, trailAhead) || !slices.Equal(list, listAhead) {
			t.Fatalf("of %s and %s: what was handed in was turned", brief(trailAhead), brief(listAhead))
		}
	}
}

// tellsAsPlain fails unless the calls tell what a plain way tells.
func tellsAsPlain(t *testing.T, trail []api.Assign, list []int) {
	t.Helper()
	tells(t, trail, list, askPlain(trail, list))
}

// isNoTrail fails unless the calls tell of it what they must of what is no trail.
func isNoTrail(t *testing.T, trail []api.Assign) {
	t.Helper()
	var first []int
	if len(trail) > 0 {
		first = []int{-trail[0].Lit}
	}
	for _, list := range [][]int{nil, {}, {-1}, {-1, -2}, {-2, -2, 1}, {0}, {math.MinInt}, {math.MaxInt}, first} {
		tells(t, trail, list, told{check: api.ErrArg, errno: api.ErrArg, short: list, back: -1})
	}
}

// isTrail fails unless it is told to be a trail, and no more so with something wrong behind it.
func isTrail(t *testing.T, trail []api.Assign) {
	t.Helper()
	if e := Check(trail, nil); e != api.OK {
		t.Fatalf("%s: %d", brief(trail), e)
	}
	if e := Check(append(copied(trail), decided(0, 1)), nil); e != api.ErrArg {
		t.Fatalf("%s, and 0: %d", brief(trail), e)
	}
}

// isNotBroken fails unless a list is told to be no broken clause of a trail that is one.
func isNotBroken(t *testing.T, trail []api.Assign, list []int) {
	t.Helper()
	isTrail(t, trail)
	c, errno := Learn(trail, list)
	if e := Check(trail, list); e != api.ErrArg || errno != api.ErrArg || len(c) != 0 {
		t.Fatalf("of %s and %s: %d; %v, %d", brief(trail), brief(list), e, c, errno)
	}
}

// learns fails unless this is learned, and this is what it is shortened.
func learns(t *testing.T, trail []api.Assign, broken, want, short []int) {
	t.Helper()
	c, e := Learn(trail, broken)
	if check := Check(trail, broken); check != api.OK || e != api.OK || !slices.Equal(c, want) {
		t.Fatalf("of %s and %s is learned %s, %d (%d), not %s", brief(trail), brief(broken), brief(c), e, check, brief(want))
	}
	shortens(t, trail, c, short...)
}

// shortens fails unless a list is shortened so.
func shortens(t *testing.T, trail []api.Assign, list []int, want ...int) {
	t.Helper()
	if short := Shorten(trail, list); !slices.Equal(short, want) {
		t.Fatalf("of %s %s is shortened %s, not %s", brief(trail), brief(list), brief(short), brief(want))
	}
}

// chain is a trail of n assignments, each but the first by the one ahead of it; all are of level 1.
func chain(n int) []api.Assign {
	trail := trailOf(decided(1, 1))
	for l := 2; l <= n; l++ {
		trail = append(trail, by(l, 1, -(l-1)))
	}
	return trail
}

// decisions is a trail of n assignments that were decided.
func decisions(n int) []api.Assign {
	var trail []api.Assign
	for l := 1; l <= n; l++ {
		trail = append(trail, decided(l, l))
	}
	return trail
}

// facts is a trail of n assignments of level 0, each by itself.
func facts(n int) []api.Assign {
	var trail []api.Assign
	for l := 1; l <= n; l++ {
		trail = append(trail, by(l, 0))
	}
	return trail
}

// widely is a trail of n assignments, each by as many ahead of it as a reason may have; the first is of that level, as all are.
func widely(n, level int) []api.Assign {
	trail := trailOf(decided(1, level))
	if level == 0 {
		trail = trailOf(by(1, level))
	}
	for l := 2; l <= n; l++ {
		trail = append(trail, by(l, level, negations(max(1, l-theReason+1), l-1)...))
	}
	return trail
}

func TestExample(t *testing.T) {
	trail := trailOf(decided(1, 1), because(2, 1, 2, -1), because(3, 1, 3, -1))
	tells(t, trail, []int{-2, -3}, told{learned: []int{-1}, short: []int{-2, -3}, back: 1, levels: 1})
	learns(t, trail, []int{-2, -3}, []int{-1}, []int{-1})
	tells(t, trail, []int{-1}, told{learned: []int{-1}, short: []int{-1}, back: 0, levels: 1})
}

func TestTrails(t *testing.T) {
	isTrail(t, nil)
	isTrail(t, trailOf())
	isTrail(t, trailOf(decided(1, 1)))
	isTrail(t, trailOf(decided(-1, 1)))
	isTrail(t, trailOf(api.Assign{Lit: 1, Level: 1, Reason: []int{}}))
	isTrail(t, trailOf(by(1, 0)))
	isTrail(t, trailOf(by(-1, 0)))
	isTrail(t, trailOf(decided(theVar, 1), decided(-theVar+1, 2)))
	isTrail(t, trailOf(by(-theVar, 0), by(theVar-1, 0, theVar)))
	isTrail(t, trailOf(by(1, 0), by(2, 0, -1), decided(3, 1), by(4, 1, -3), decided(5, 2), decided(6, 3)))
	isTrail(t, trailOf(by(-1, 0), because(-2, 0, 1, -2), decided(-3, 1), because(4, 1, 3, 4, 2)))
}

func TestReasonsThatHaveALiteralTwice(t *testing.T) {
	trail := trailOf(decided(1, 1), because(2, 1, 2, -1, 2), because(3, 1, -1, 3, -2, -1, 3))
	isTrail(t, trail)
	isTrail(t, trailOf(because(1, 0, 1, 1)))
	learns(t, trail, []int{-3, -2}, []int{-1}, []int{-1})
	learns(t, append(trail, decided(4, 2), because(5, 2, -4, -3, -4, 5, 5, -3)), []int{-5, -4}, []int{-4, -3}, []int{-4, -3})
}

func TestReasonsOfMostLiterals(t *testing.T) {
	wide := decisions(theReason - 1)
	last := theReason
	level := theReason - 1
	isTrail(t, append(copied(wide), by(last, level, negations(1, last-1)...)))
	isTrail(t, append(copied(wide), because(last, level, append(negations(1, last-1), last)...)))
	isTrail(t, append(copied(wide), because(last, level, slices.Repeat([]int{last}, theReason)...)))
	isNoTrail(t, append(copied(wide), by(last, level, append(negations(1, last-1), -1)...)))
	isNoTrail(t, append(copied(wide), because(last, level, slices.Repeat([]int{last}, theReason+1)...)))
	more := decisions(theReason)
	isNoTrail(t, append(copied(more), by(last+1, level+1, negations(1, last)...)))
	isNoTrail(t, trailOf(because(1, 0, slices.Repeat([]int{1}, theReason+1)...)))
	isNoTrail(t, trailOf(because(1, 0, slices.Repeat([]int{1}, theWide+1)...)))
	trail := append(copied(wide), by(last, level, negations(1, last-1)...))
	learns(t, trail, []int{-last, -level}, backwards(negations(1, level)), backwards(negations(1, level)))
}

func TestTrailsOfMostAssignments(t *testing.T) {
	for _, grow := range []func(int) []api.Assign{chain, decisions, facts} {
		isTrail(t, grow(theTrail-1))
		most := grow(theTrail)
		if Check(most, nil) != api.OK || Check(most, []int{-theTrail}) != api.OK {
			t.Error("a trail of most assignments")
		}
		isNoTrail(t, grow(theTrail+1))
	}
	all := negations(1, theTrail)
	tells(t, chain(theTrail), all, told{learned: []int{-1}, short: []int{-1}, back: 1, levels: 1})
	tells(t, chain(theTrail), backwards(all), told{learned: []int{-1}, short: []int{-theTrail, -1}, back: 1, levels: 1})
	tells(t, decisions(theTrail), all, told{learned: backwards(all), short: all, back: theTrail, levels: theTrail})
	tells(t, decisions(theTrail), backwards(all), told{learned: backwards(all), short: backwards(all), back: theTrail - 1, levels: theTrail})
	tells(t, facts(theTrail), all, told{short: []int{-1}, back: 0, levels: 1})
	learns(t, chain(theTrail), []int{-theTrail}, []int{-theTrail}, []int{-theTrail})
	learns(t, chain(theTrail), []int{-theTrail, -1}, []int{-1}, []int{-1})
}

func TestVariablesFarApart(t *testing.T) {
	for _, step := range []int{1, 2, 3, 64, 100, 233, 255, 256} {
		var trail []api.Assign
		var all, between []int
		for i := 1; i <= theTrail; i++ {
			trail = append(trail, decided(i*step, i))
			all = append(all, -i*step)
			between = append(between, -i*step+1)
		}
		tells(t, trail, all, told{learned: backwards(all), short: all, back: theTrail, levels: theTrail})
		if got := Levels(trail, between); step > 1 && got != 0 {
			t.Errorf("in steps of %d: Levels of what is not in it: %d", step, got)
		}
		trail[theTrail-1].Lit = -trail[theTrail/2].Lit
		isNoTrail(t, trail)
	}
}

func TestTrailsOfMostLiterals(t *testing.T) {
	trail := widely(theTrail, 1)
	learns(t, trail, []int{-theTrail, -1}, []int{-1}, []int{-1})
	learns(t, trail, []int{-theTrail}, []int{-theTrail}, []int{-theTrail})
	learns(t, trail, []int{-theTrail, -theTrail + 1}, []int{-1}, []int{-1})
	learns(t, widely(theTrail, 0), negations(1, theTrail), nil, nil)
	behind := append(widely(theTrail-2, 1), decided(theTrail-1, 2), by(theTrail, 2, -theTrail+1, -theTrail+2))
	learns(t, behind, []int{-theTrail + 1, -theTrail, -1}, []int{-theTrail + 1, -1, -theTrail + 2}, []int{-theTrail + 1, -1})
}

func TestWrongLiterals(t *testing.T) {
	// Among them some that would be literals of the trail, if they were cut to 32 bits.
	for _, l := range []int{0, theVar + 1, -theVar - 1, 1 << 32, 1<<32 + 1, -1<<32 - 1, 1<<32 - 2, 2 - 1<<32, math.MaxInt, math.MinInt, math.MinInt + 1} {
		isNoTrail(t, trailOf(decided(l, 1)))
		isNoTrail(t, trailOf(by(l, 0)))
		isNoTrail(t, trailOf(decided(1, 1), decided(l, 2)))
		isNoTrail(t, trailOf(decided(1, 1), by(l, 1, -1)))
		isNoTrail(t, trailOf(decided(1, 1), by(2, 1, l)))
		isNoTrail(t, trailOf(decided(1, 1), because(2, 1, l, 2)))
		isNoTrail(t, trailOf(decided(l, 1), by(2, 1, -l)))
		trail := trailOf(decided(1, 1), decided(2, 2))
		for _, list := range [][]int{{l}, {l, -1}, {-1, l}} {
			isNotBroken(t, trail, list)
			tells(t, trail, list, told{check: api.ErrArg, errno: api.ErrArg, short: list, back: -1, levels: len(list) - 1})
		}
	}
}

func TestVariablesTwice(t *testing.T) {
	for _, l := range []int{1, -1, theVar, -theVar} {
		for _, again := range []int{l, -l} {
			isNoTrail(t, trailOf(decided(l, 1), decided(again, 2)))
			isNoTrail(t, trailOf(decided(l, 1), by(again, 1, -l)))
			isNoTrail(t, trailOf(decided(l, 1), because(again, 1, again)))
			isNoTrail(t, trailOf(by(l, 0), by(again, 0)))
			isNoTrail(t, trailOf(by(l, 0), decided(again, 1)))
			isNoTrail(t, trailOf(decided(l, 1), decided(2, 2), by(3, 2, -2), by(again, 2, -3)))
		}
	}
}

func TestWrongLevels(t *testing.T) {
	for _, level := range []int{math.MinInt, math.MinInt + 1, -2, -1, 4, 5, 1 << 16, 1 << 32, math.MaxInt - 1, math.MaxInt} {
		isNoTrail(t, trailOf(decided(1, level)))
		isNoTrail(t, trailOf(by(1, level)))
		isNoTrail(t, trailOf(decided(1, 1), decided(2, 2), decided(3, level)))
		isNoTrail(t, trailOf(decided(1, 1), decided(2, 2), by(3, level, -2)))
		isNoTrail(t, trailOf(decided(1, level), decided(2, level), decided(3, level)))
	}
	isNoTrail(t, trailOf(decided(1, 2)))
	isNoTrail(t, trailOf(by(1, 0), decided(2, 2)))
	isNoTrail(t, trailOf(decided(1, 1), decided(2, 3)))
	isNoTrail(t, trailOf(decided(1, 1), by(2, 0)))
	isNoTrail(t, trailOf(decided(1, 1), decided(2, 2), by(3, 1, -1)))
	isNoTrail(t, trailOf(decided(1, 1), decided(2, 2), decided(3, 1)))
}

func TestWrongDecisions(t *testing.T) {
	isNoTrail(t, trailOf(by(1, 1)))
	isNoTrail(t, trailOf(by(1, 0), by(2, 1, -1)))
	isNoTrail(t, trailOf(decided(1, 1), by(2, 2, -1)))
	isNoTrail(t, trailOf(decided(1, 0)))
	isNoTrail(t, trailOf(api.Assign{Lit: 1, Reason: []int{}}))
	isNoTrail(t, trailOf(by(1, 0), decided(2, 0)))
	isNoTrail(t, trailOf(decided(1, 1), decided(2, 1)))
	isNoTrail(t, trailOf(decided(1, 1), decided(2, 2), by(3, 2, -1), decided(4, 2)))
	isNoTrail(t, trailOf(api.Assign{}))
}

func TestWrongReasons(t *testing.T) {
	// 2 is by what lacks it, by what has something behind it, of either sign, by what is true, and by its own negation.
	for _, reason := range [][]int{{-1}, {-1, -1}, {-2, -1}, {2, -3}, {2, -1, -3}, {-3, 2}, {2, 3}, {2, 1}, {1, 2, -1}, {2, -2}, {2, -1, -2}, {2, -4}, {2, 4}} {
		isNoTrail(t, trailOf(decided(1, 1), because(2, 1, reason...)))
		isNoTrail(t, trailOf(decided(1, 1), because(2, 1, reason...), by(3, 1, -1)))
		isNoTrail(t, trailOf(by(1, 0), because(2, 0, reason...), decided(3, 1)))
	}
	isNoTrail(t, trailOf(because(1, 0, -1)))
	isNoTrail(t, trailOf(because(1, 0, 2)))
	isNoTrail(t, trailOf(because(1, 0, 1, -1)))
}

func TestBrokenClauses(t *testing.T) {
	trail := trailOf(by(1, 0), by(2, 0, -1), decided(-3, 1), by(4, 1, 3, -2), decided(5, 2), by(-6, 2, -5, -4))
	for _, none := range [][]int{nil, {}} {
		tells(t, trail, none, told{back: -1})
		tells(t, nil, none, told{back: -1})
		tells(t, trailOf(), none, told{back: -1})
	}
	learns(t, trail, []int{-1}, nil, nil)
	learns(t, trail, []int{-2}, nil, nil)
	learns(t, trail, []int{-2, -1, -2}, nil, nil)
	learns(t, trail, []int{3}, []int{3}, []int{3})
	learns(t, trail, []int{3, 3, 3}, []int{3}, []int{3})
	learns(t, trail, []int{6}, []int{6}, []int{6})
	learns(t, trail, []int{-4, 3}, []int{3, -2}, []int{3})
	learns(t, trail, []int{-4, 3, -4, 3}, []int{3, -2}, []int{3})
	learns(t, trail, []int{-1, 6}, []int{6, -1}, []int{6})
	learns(t, trail, []int{6, -5}, []int{-5, -4}, []int{-5, -4})
	learns(t, trail, []int{-5, 6, 6, -5, 6}, []int{-5, -4}, []int{-5, -4})
	learns(t, trail, slices.Repeat([]int{6}, theWide), []int{6}, []int{6})
}

func TestNoBrokenClauses(t *testing.T) {
	trail := trailOf(by(1, 0), decided(-2, 1), by(3, 1, 2))
	// True by the trail, of a variable that is not in it, or both of a variable.
	for _, list := range [][]int{{1}, {-2}, {3}, {-1, 3}, {3, -1}, {2, -2}, {-2, 2}, {4}, {-4}, {-1, 4}, {-4, -1}, {theVar}, {-theVar}} {
		isNotBroken(t, trail, list)
		isNotBroken(t, nil, list)
	}
	isNotBroken(t, trail, slices.Repeat([]int{-1}, theWide+1))
	isNotBroken(t, trail, slices.Repeat([]int{-1}, theWide*4))
	isNotBroken(t, nil, []int{-1})
	isNotBroken(t, nil, []int{0})
}

func TestPoints(t *testing.T) {
	trail := trailOf(decided(1, 1), decided(2, 2), by(3, 2, -1, -2), by(4, 2, -3), by(5, 2, -3), by(6, 2, -2))
	// One that has a reason: both ways to what is broken go through it.
	learns(t, trail, []int{-4, -5}, []int{-3}, []int{-3})
	// One that was decided: a way goes around it.
	learns(t, trail, []int{-4, -6}, []int{-2, -1}, []int{-2, -1})
	learns(t, trail, []int{-4, -2}, []int{-2, -1}, []int{-2, -1})
	// The one literal of its level, whatever it is.
	learns(t, trail, []int{-4}, []int{-4}, []int{-4})
	learns(t, trail, []int{-1, -4}, []int{-4, -1}, []int{-4, -1})
	learns(t, trail, []int{-1}, []int{-1}, []int{-1})
}

func TestLastOnesGoFirst(t *testing.T) {
	// Were 3 to go ahead of 4, its reason would come twice, and 2 stay instead of 3.
	trail := trailOf(decided(1, 1), by(2, 1, -1), by(3, 1, -2), by(4, 1, -3))
	learns(t, trail, []int{-3, -4}, []int{-3}, []int{-3})
	learns(t, trail, []int{-4, -3}, []int{-3}, []int{-3})
	// By variables the other way round.
	trail = trailOf(decided(4, 1), by(3, 1, -4), by(2, 1, -3), by(1, 1, -2))
	learns(t, trail, []int{-1, -2}, []int{-2}, []int{-2})
}

func TestOrder(t *testing.T) {
	trail := trailOf(by(9, 0), by(-8, 0), decided(7, 1), by(-6, 1, -7), decided(5, 2), by(1, 2, -5), by(-4, 2, -5), decided(3, 3), by(2, 3, -3))
	learns(t, trail, []int{-9, 8, -7, 6, -5, -1, 4, -2}, []int{-2, -1, 4, -5, 6, -7, 8, -9}, []int{-2, -5, -7})
	learns(t, trail, []int{-2, 6, 8, 4, -1}, []int{-2, -1, 4, 6, 8}, []int{-2, -1, 4, 6})
	learns(t, trail, []int{-1, 6, 4, -9}, []int{-5, 6, -9}, []int{-5, 6})
	// Amounts count, not signs, and not places.
	trail = trailOf(decided(-30, 1), by(20, 1, 30), by(-10, 1, 30), decided(1, 2))
	learns(t, trail, []int{-1, 30, -20, 10}, []int{-1, 10, -20, 30}, []int{-1, 30})
}

func TestTwoOfOneLevelBehindThePoint(t *testing.T) {
	trail := trailOf(decided(4, 1), by(2, 1, -4), by(3, 1, -4), decided(5, 2), by(6, 2, -5, -3), by(7, 2, -5, -2))
	learns(t, trail, []int{-6, -7}, []int{-5, -2, -3}, []int{-5, -2, -3})
	tells(t, trail, []int{-5, -2, -3}, told{learned: []int{-5, -2, -3}, short: []int{-5, -2, -3}, back: 1, levels: 2})
}

func TestIdleLiterals(t *testing.T) {
	trail := trailOf(by(1, 0), decided(2, 1), by(3, 1, -2), by(4, 1, -3, -1), by(5, 1, -4, -2), decided(6, 2), by(7, 2, -6), by(8, 2, -7, -5))
	// By what is in it, by what is idle itself, in it or not, and by level 0.
	shortens(t, trail, []int{-6, -3, -2}, -6, -2)
	shortens(t, trail, []int{-6, -4, -2}, -6, -2)
	shortens(t, trail, []int{-6, -5, -2}, -6, -2)
	shortens(t, trail, []int{-6, -2, -3, -4, -5}, -6, -2)
	shortens(t, trail, []int{-6, -5, -3}, -6, -5, -3)
	shortens(t, trail, []int{-6, -4, -3}, -6, -3)
	shortens(t, trail, []int{-6, -5}, -6, -5)
	shortens(t, trail, []int{-6, -5, -1}, -6, -5)
	// By the point, which is in it, too.
	shortens(t, trail, []int{-6, -7, -8, -5}, -6, -5)
	shortens(t, trail, []int{-2, -3, -4, -5, -6}, -2, -6)
	// The point is not idle, even if all of its reason is in it, or of level 0.
	shortens(t, trail, []int{-7, -6}, -7, -6)
	shortens(t, trail, []int{-3, -2}, -3, -2)
	shortens(t, trail, []int{-1}, -1)
	shortens(t, trail, []int{-1, -6}, -1, -6)
	// What was decided is not idle.
	shortens(t, trail, []int{-2, -6}, -2, -6)
	shortens(t, trail, []int{-6, -2}, -6, -2)
}

func TestIdleByALongRow(t *testing.T) {
	for _, n := range []int{3, 100, theTrail - 1} {
		trail := append(chain(n), decided(n+1, 2))
		shortens(t, trail, []int{-n - 1, -n, -1}, -n-1, -1)
		shortens(t, trail, []int{-n - 1, -n}, -n-1, -n)
		shortens(t, trail, append([]int{-n - 1}, backwards(negations(2, n))...), -n-1, -2)
	}
}

func TestIdleByABranchThatIsNot(t *testing.T) {
	trail := trailOf(decided(1, 1), decided(2, 2), by(3, 2, -1), by(4, 2, -2), by(5, 2, -3, -4), decided(6, 3))
	shortens(t, trail, []int{-6, -5, -1}, -6, -5, -1)
	shortens(t, trail, []int{-6, -5, -2}, -6, -5, -2)
	shortens(t, trail, []int{-6, -5, -2, -1}, -6, -2, -1)
	shortens(t, trail, []int{-6, -5, -4, -3}, -6, -4, -3)
}

func TestLevel0GoesByShorten(t *testing.T) {
	trail := trailOf(by(1, 0), by(2, 0, -1), decided(3, 1), by(4, 1, -3, -2), by(5, 1, -3, -1))
	learns(t, trail, []int{-4, -5}, []int{-3, -1, -2}, []int{-3})
	learns(t, trail, []int{-4, -1}, []int{-4, -1}, []int{-4})
	learns(t, trail, []int{-1, -2}, nil, nil)
	shortens(t, trail, []int{-1, -2}, -1)
	shortens(t, trail, []int{-2, -1}, -2)
	shortens(t, trail, []int{-2, -3, -1}, -2, -3)
	shortens(t, trail, []int{-2, -4, -1}, -2, -4)
}

func TestShortenOfOtherLists(t *testing.T) {
	trail := trailOf(by(1, 0), decided(2, 1), by(3, 1, -2))
	for _, list := range [][]int{nil, {}, {1}, {-1, 1}, {2, -3}, {-2, -3, 3}, {-2, -3, -4}, {4}, {0}, {-3, 0, -2}, {math.MinInt}, {-2, -1, math.MinInt}, {math.MaxInt, -2}} {
		shortens(t, trail, list, list...)
	}
	shortens(t, trailOf(decided(2, 1), decided(3, 1)), []int{-2, -3}, -2, -3)
	shortens(t, nil, []int{-2, -3}, -2, -3)
	// A literal that stands there twice is the same one, the point, too.
	shortens(t, trail, []int{-2, -3, -2, -3}, -2, -2)
	shortens(t, trail, []int{-3, -2, -3, -2}, -3, -2, -3, -2)
	// More than a clause may have.
	many := slices.Repeat([]int{-2, -1, -3}, theWide)
	shortens(t, trail, many, slices.Repeat([]int{-2}, theWide)...)
}

func TestBack(t *testing.T) {
	trail := trailOf(by(1, 0), decided(2, 1), by(3, 1, -2), decided(4, 2), decided(5, 3))
	for _, x := range []struct {
		list []int
		want int
	}{
		{nil, -1}, {[]int{}, -1},
		{[]int{-1}, 0}, {[]int{-2}, 0}, {[]int{-5}, 0},
		{[]int{-5, -1}, 0}, {[]int{-5, -2}, 1}, {[]int{-5, -3, -1}, 1}, {[]int{-5, -4, -3}, 2}, {[]int{-5, -3, -4}, 2},
		{[]int{-1, -5}, 3}, {[]int{-1, -2, -5, -3}, 3}, {[]int{-5, -5}, 3}, {[]int{-4, -1, -1}, 0},
		{[]int{5}, -1}, {[]int{5, -4}, -1}, {[]int{-5, 4}, -1}, {[]int{-5, -4, 6}, -1}, {[]int{-6}, -1}, {[]int{-6, -5}, -1},
		{[]int{0}, -1}, {[]int{-5, 0}, -1}, {[]int{math.MinInt}, -1}, {[]int{-5, math.MinInt}, -1}, {[]int{math.MaxInt, -5}, -1}, {[]int{-5, math.MaxInt}, -1},
	} {
		if got := Back(trail, x.list); got != x.want {
			t.Errorf("Back of %v: %d, not %d", x.list, got, x.want)
		}
	}
	for _, list := range [][]int{nil, {}, {-1}, {0}} {
		if Back(nil, list) != -1 || Back(trailOf(decided(1, 2)), list) != -1 {
			t.Errorf("Back of %v, where nothing is there, and of no trail", list)
		}
	}
	if got := Back(trail, slices.Repeat([]int{-4, -3}, theWide)); got != 2 {
		t.Errorf("Back of a long list: %d", got)
	}
}

func TestLevels(t *testing.T) {
	trail := trailOf(by(1, 0), decided(2, 1), by(-3, 1, -2), decided(4, 2), decided(5, 3))
	for _, x := range []struct {
		list []int
		want int
	}{
		{nil, 0}, {[]int{}, 0},
		{[]int{-1}, 1}, {[]int{1}, 1}, {[]int{5}, 1}, {[]int{-5, 5}, 1}, {[]int{2, 3}, 1}, {[]int{-3, -2, -3}, 1},
		{[]int{1, 2}, 2}, {[]int{-5, -1, -4}, 3}, {[]int{-5, 3, -4, -1}, 4}, {[]int{1, 2, 3, 4, 5}, 4},
		{[]int{6}, 0}, {[]int{-6, theVar, -theVar}, 0}, {[]int{6, 5}, 1}, {[]int{-1, 7, 3}, 2},
		{[]int{0}, 0}, {[]int{0, 1}, 1}, {[]int{math.MinInt}, 0}, {[]int{math.MaxInt, 4, math.MinInt, 5}, 2}, {[]int{theVar + 1, -theVar - 1}, 0},
	} {
		if got := Levels(trail, x.list); got != x.want {
			t.Errorf("Levels of %v: %d, not %d", x.list, got, x.want)
		}
		if Levels(nil, x.list) != 0 || Levels(append(copied(trail), decided(6, 3)), x.list) != 0 {
			t.Errorf("Levels of %v, where nothing is there, and of no trail", x.list)
		}
	}
	if got := Levels(trail, slices.Repeat([]int{4, 0, -1, 5}, theWide)); got != 3 {
		t.Errorf("Levels of a long list: %d", got)
	}
}

func TestAnswersAreNewMemory(t *testing.T) {
	trail := trailOf(decided(1, 1), decided(2, 2))
	broken := []int{-2, -1}
	c, _ := Learn(trail, broken)
	d, _ := Learn(trail, broken)
	for _, list := range [][]int{c, Shorten(trail, broken), Shorten(nil, broken), Shorten(trail, append(broken, 3))} {
		clear(list)
	}
	if !slices.Equal(d, []int{-2, -1}) || !slices.Equal(broken, []int{-2, -1}) {
		t.Error("what was answered shares memory", d, broken)
	}
	// Room behind a list that is handed in is not written to either.
	room := []int{-2, -1, 7, 7}
	tells(t, trail, room[:2], told{learned: []int{-2, -1}, short: []int{-2, -1}, back: 1, levels: 2})
	if _ = append(Shorten(nil, room[:2]), 9); !slices.Equal(room, []int{-2, -1, 7, 7}) {
		t.Error("what is behind a list was turned", room)
	}
}

func TestNil(t *testing.T) {
	tells(t, nil, nil, told{back: -1})
	tells(t, nil, []int{-1}, told{check: api.ErrArg, errno: api.ErrArg, short: []int{-1}, back: -1})
	tells(t, trailOf(decided(1, 1)), nil, told{back: -1})
	tells(t, trailOf(decided(1, 1), because(2, 1)), nil, told{check: api.ErrArg, errno: api.ErrArg, back: -1})
}

// numbers is a row of numbers, the same for each seed.
type numbers uint64

// pick is the next one, below n.
func (r *numbers) pick(n int) int {
	*r = *r*6364136223846793005 + 1442695040888963407
	return int(uint64(*r)>>33) % n
}

// one is one of a list.
func (r *numbers) one(list []int) int {
	return list[r.pick(len(list))]
}

// shuffle lets a list stand in another order.
func (r *numbers) shuffle(list []int) {
	for i := range list {
		k := r.pick(i + 1)
		list[i], list[k] = list[k], list[i]
	}
}

// some is at most n of a list, some of them perhaps twice.
func (r *numbers) some(list []int, n int) []int {
	var of []int
	for range r.pick(n + 1) {
		if len(list) > 0 {
			of = append(of, r.one(list))
		}
	}
	return of
}

// trail is one of those variables, in some order, with reasons of some literals each.
func (r *numbers) trail(variables []int, wide int) []api.Assign {
	order := slices.Clone(variables)
	r.shuffle(order)
	decide := 1 + r.pick(6)
	level := 0
	var trail []api.Assign
	var negated []int
	for _, l := range order {
		l *= 1 - 2*r.pick(2)
		if r.pick(decide) == 0 {
			level++
			trail = append(trail, decided(l, level))
		} else {
			reason := append(r.some(negated, wide), l)
			r.shuffle(reason)
			trail = append(trail, because(l, level, reason...))
		}
		negated = append(negated, -l)
	}
	return trail
}

// falseOf is the negations of a trail's literals.
func falseOf(trail []api.Assign) []int {
	var list []int
	for _, a := range trail {
		list = append(list, -a.Lit)
	}
	return list
}

// upTo is the numbers from 1 to n.
func upTo(n int) []int {
	return backwards(negations(-n, -1))
}

// follows fails unless what is learned follows, is broken by the trail, and has of its level what it may have; all variables are at most vars.
func follows(t *testing.T, trail []api.Assign, broken []int, vars int) {
	t.Helper()
	learned, e := Learn(trail, broken)
	if e != api.OK {
		t.Fatalf("of %v and %v: %d", trail, broken, e)
	}
	clauses := [][]int{broken}
	for _, a := range trail {
		if len(a.Reason) > 0 {
			clauses = append(clauses, a.Reason)
		}
	}
	f := api.Cnf{Vars: vars, Clauses: clauses}
	level := plainLevel(trail, broken)
	for _, c := range [][]int{learned, Shorten(trail, learned)} {
		isFalse(t, trail, c)
		if _, count := plainLast(trail, c, level); count != min(level, 1) || level == 0 && len(c) > 0 {
			t.Fatalf("of %v and %v is learned %v, with %d literals of level %d", trail, broken, c, count, level)
		}
		for m := range 1 << vars {
			if model := modelOf(m, vars); lit.Holds(f, model) && lit.Clause(model, c) != 1 {
				t.Fatalf("of %v and %v is learned %v, but not by the model %v", trail, broken, c, model)
			}
		}
	}
}

// isFalse fails unless a clause is broken by a trail.
func isFalse(t *testing.T, trail []api.Assign, c []int) {
	t.Helper()
	model := make([]int, 16)
	for _, a := range trail {
		model[max(a.Lit, -a.Lit)-1] = a.Lit
	}
	if lit.Clause(model, c) != -1 {
		t.Fatalf("%v is not broken by %v", c, trail)
	}
}

// modelOf is the model of some variables of that number.
func modelOf(number, vars int) []int {
	model := make([]int, vars)
	for i := range model {
		model[i] = 2*(number>>i&1) - 1
	}
	return model
}

func TestManyTrails(t *testing.T) {
	r := numbers(1)
	points := [2]int{}
	shortened := 0
	for round := range 4000 {
		trail := r.trail(upTo(r.pick(11)), 1+r.pick(4))
		negated := falseOf(trail)
		for range 4 {
			broken := r.some(negated, 5)
			tellsAsPlain(t, trail, broken)
			learned, e := Learn(trail, broken)
			if e != api.OK {
				t.Fatalf("round %d: %v and %v: %d", round, trail, broken, e)
			}
			tellsAsPlain(t, trail, learned)
			short := Shorten(trail, learned)
			tellsAsPlain(t, trail, short)
			if len(short) < len(learned) {
				shortened++
			}
			if len(learned) > 0 && len(broken) > 1 {
				a := trail[plainPlace(trail, -learned[0])]
				points[min(len(a.Reason), 1)]++
			}
			tellsAsPlain(t, trail, r.some(append([]int{1, -1, 5, -5, 11, -11}, negated...), 6))
		}
	}
	if points[0] < 1000 || points[1] < 1000 || shortened < 1000 {
		t.Errorf("too few of a kind: %v, %d", points, shortened)
	}
}

func TestManyGreaterTrails(t *testing.T) {
	r := numbers(2)
	for range 150 {
		var variables []int
		for range 40 + r.pick(100) {
			variables = append(variables, 1+r.pick(theVar))
		}
		variables = append(plainOnce(variables), theVar)
		trail := r.trail(slices.Compact(variables), 2)
		tellsAsPlain(t, trail, r.some(falseOf(trail), 6))
		learned, _ := Learn(trail, r.some(falseOf(trail), 20))
		tellsAsPlain(t, trail, learned)
	}
}

func TestWhatFollows(t *testing.T) {
	r := numbers(3)
	for range 3000 {
		vars := 1 + r.pick(8)
		trail := r.trail(upTo(vars), 1+r.pick(3))
		follows(t, trail, r.some(falseOf(trail), 4), vars)
	}
}

// spoil turns one thing of a trail.
func (r *numbers) spoil(trail []api.Assign) []api.Assign {
	bad := copied(trail)
	i, k := r.pick(len(bad)), r.pick(len(bad))
	others := []int{0, 1, -1, 2, -2, 3, -3, 4, -4, 9, -9, theVar + 1, math.MinInt, math.MaxInt}
	switch r.pick(9) {
	case 0:
		bad[i].Lit = r.one(others)
	case 1:
		bad[i].Level += r.pick(5) - 2
	case 2:
		bad[i].Level = r.one(others)
	case 3:
		bad[i], bad[k] = bad[k], bad[i]
	case 4:
		bad[i].Reason = bad[k].Reason
	case 5:
		bad[i].Reason = append(bad[i].Reason, r.one(others))
	case 6:
		bad[i].Reason = bad[i].Reason[:r.pick(len(bad[i].Reason)+1)]
	case 7:
		bad = slices.Delete(bad, i, i+1)
	case 8:
		bad = slices.Insert(bad, i, bad[k])
	}
	return bad
}

func TestManySpoiledTrails(t *testing.T) {
	r := numbers(4)
	wrong, right := 0, 0
	for range 30000 {
		trail := r.spoil(r.trail(upTo(1+r.pick(6)), 1+r.pick(3)))
		tellsAsPlain(t, trail, r.some(falseOf(trail), 3))
		if plainTrail(trail) {
			right++
		} else {
			wrong++
		}
	}
	if wrong < 5000 || right < 2000 {
		t.Errorf("too few of a kind: %d wrong, %d right", wrong, right)
	}
}

// lists is all lists of at most most numbers out of some.
func lists(some []int, most int) [][]int {
	all := [][]int{nil}
	for from := 0; most > 0; most-- {
		end := len(all)
		for _, l := range all[from:end] {
			for _, n := range some {
				all = append(all, append(slices.Clone(l), n))
			}
		}
		from = end
	}
	return all
}

// grown fails unless what may stand behind a trail is told as by a plain way; and is the trails that are one assignment longer.
func grown(t *testing.T, trail []api.Assign, reasons [][]int) [][]api.Assign {
	t.Helper()
	var longer [][]api.Assign
	for _, l := range []int{1, -1, 2, -2, 3, -3} {
		for level := -1; level <= 4; level++ {
			for _, reason := range reasons {
				next := append(slices.Clone(trail), because(l, level, reason...))
				want := api.ErrArg
				if plainMayStand(trail, next[len(trail)]) {
					want = api.OK
					longer = append(longer, next)
				}
				if e := Check(next, nil); e != want {
					t.Fatalf("%v: %d, not %d", next, e, want)
				}
			}
		}
	}
	return longer
}

func TestAllShortTrails(t *testing.T) {
	reasons := lists([]int{1, -1, 2, -2, 3, -3}, 2)
	trails := [][]api.Assign{nil}
	for n, count := range []int{18, 360, 5040} {
		var longer [][]api.Assign
		for _, trail := range trails {
			longer = append(longer, grown(t, trail, reasons)...)
		}
		trails = longer
		if len(trails) != count {
			t.Fatalf("%d trails of %d", len(trails), n+1)
		}
		for _, trail := range trails {
			for _, list := range lists(falseOf(trail), 3) {
				tellsAsPlain(t, trail, list)
			}
		}
	}
	for i, trail := range trails {
		if i%7 == 0 {
			for _, broken := range lists(falseOf(trail), 2) {
				follows(t, trail, broken, 3)
			}
		}
	}
}
