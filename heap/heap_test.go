package heap

import (
	"cmp"
	"fmt"
	"math"
	"slices"
	"strings"
	"testing"

	"fathom/api"
)

// The chapter's numbers, written out once more: a test by the package's own would follow whatever they turn to.
const (
	theFirst = 64
	theTop   = 1 << 40
	million  = 1 << 20
)

// plain is a heap as the chapter's words say, without any order of its own.
type plain struct {
	// scores and in are by variables; the first of each is nobody's.
	scores []int
	in     []bool
	step   int
}

// newPlain is one of n variables.
func newPlain(n int) *plain {
	p := &plain{scores: make([]int, n+1), in: make([]bool, n+1), step: theFirst}
	for v := 1; v <= n; v++ {
		p.in[v] = true
	}
	return p
}

// isVariable tells whether a number is a variable of it.
func (p *plain) isVariable(v int) bool {
	return v > 0 && v < len(p.scores)
}

// compare is below 0, if the first variable is better than the second.
func (p *plain) compare(v, u int) int {
	return cmp.Or(cmp.Compare(p.scores[u], p.scores[v]), cmp.Compare(v, u))
}

// sorted is the variables that are in it, the best one first.
func (p *plain) sorted() []int {
	var list []int
	for v, in := range p.in {
		if in {
			list = append(list, v)
		}
	}
	slices.SortFunc(list, p.compare)
	return list
}

// best is the best one that is in it; 0: none is.
func (p *plain) best() int {
	best := 0
	for v, in := range p.in {
		if in && (best == 0 || p.compare(v, best) < 0) {
			best = v
		}
	}
	return best
}

// scale scales it, if that must be.
func (p *plain) scale() {
	if slices.Max(p.scores) <= theTop && p.step <= theTop {
		return
	}
	for v := range p.scores {
		p.scores[v] /= million
	}
	p.step = max(p.step/million, 1)
}

// bump bumps a variable; the scores ahead of scaling.
func (p *plain) bump(v int) []int {
	p.scores[v] += p.step
	ahead := slices.Clone(p.scores)
	p.scale()
	return ahead
}

// decay lets the step grow; the scores ahead of scaling.
func (p *plain) decay() []int {
	p.step += p.step/16 + 1
	ahead := slices.Clone(p.scores)
	p.scale()
	return ahead
}

// wrong is numbers that are no variables of a heap of n.
func wrong(n int) []int {
	return []int{math.MinInt, math.MinInt + 1, -n - 1, -n, -1, 0, n + 1, n + 2, math.MaxInt - 1, math.MaxInt}
}

// twin is a heap, another one of which the same is asked, and a plain one.
type twin struct {
	t    *testing.T
	h, g *Heap
	p    *plain
	n    int
	log  []string
}

// made is a twin of n variables.
func made(t *testing.T, n int) *twin {
	t.Helper()
	w := &twin{t: t, p: newPlain(n), n: n, log: []string{fmt.Sprintf("New(%d)", n)}}
	var e, e2 api.Errno
	w.h, e = New(n)
	w.g, e2 = New(n)
	if w.h == nil || w.g == nil || w.h == w.g || e != api.OK || e2 != api.OK {
		t.Fatalf("New(%d): %v, %d", n, w.h, e)
	}
	w.sound()
	return w
}

// fail ends the test, and tells how many variables there are, and what was asked last.
func (w *twin) fail(format string, args ...any) {
	w.t.Helper()
	last := w.log[max(len(w.log)-200, 0):]
	w.t.Fatalf("%s\nof %d, behind %s", fmt.Sprintf(format, args...), w.n, strings.Join(last, ", "))
}

// note notes what is asked.
func (w *twin) note(format string, args ...any) {
	w.log = append(w.log, fmt.Sprintf(format, args...))
}

// sound fails unless both tell what the plain one tells, and nothing of what is no variable.
func (w *twin) sound() {
	w.t.Helper()
	count := 0
	for _, in := range w.p.in {
		if in {
			count++
		}
	}
	want := w.p.best()
	for _, h := range []*Heap{w.h, w.g} {
		if h.Len() != count || h.Step() != w.p.step {
			w.fail("%d are in it, its step is %d; not %d, %d", h.Len(), h.Step(), count, w.p.step)
		}
		if best, ok := h.Best(); best != want || ok != (want != 0) {
			w.fail("Best() = %d, %v; not %d", best, ok, want)
		}
		for v := 1; v <= w.n; v++ {
			if h.Has(v) != w.p.in[v] || h.Score(v) != w.p.scores[v] {
				w.fail("of %d: %v, %d; not %v, %d", v, h.Has(v), h.Score(v), w.p.in[v], w.p.scores[v])
			}
		}
		for _, v := range wrong(w.n) {
			if h.Has(v) || h.Score(v) != 0 {
				w.fail("of %d, which is no variable: %v, %d", v, h.Has(v), h.Score(v))
			}
		}
	}
}

// pop takes the best one out, if there is one; 0: there is none.
func (w *twin) pop() int {
	w.t.Helper()
	w.note("Pop()")
	want := w.p.best()
	v, ok := w.h.Pop()
	v2, ok2 := w.g.Pop()
	if v != want || v2 != want || ok != (want != 0) || ok2 != ok {
		w.fail("%d, %v, and of its like %d, %v; not %d", v, ok, v2, ok2, want)
	}
	w.p.in[want] = false
	w.sound()
	return v
}

// answers fails unless both told what must be told of a variable, or of what is none.
func (w *twin) answers(v int, e, e2 api.Errno) {
	w.t.Helper()
	want := api.ErrArg
	if w.p.isVariable(v) {
		want = api.OK
	}
	if e != want || e2 != want {
		w.fail("%d, and of its like %d; not %d", e, e2, want)
	}
}

// push pushes what may be a variable.
func (w *twin) push(v int) {
	w.t.Helper()
	w.note("Push(%d)", v)
	w.answers(v, w.h.Push(v), w.g.Push(v))
	if w.p.isVariable(v) {
		w.p.in[v] = true
	}
	w.sound()
}

// bump bumps what may be a variable.
func (w *twin) bump(v int) {
	w.t.Helper()
	w.note("Bump(%d)", v)
	w.answers(v, w.h.Bump(v), w.g.Bump(v))
	if w.p.isVariable(v) {
		w.unturned(w.p.bump(v))
	}
	w.sound()
}

// decay lets the step grow, so often.
func (w *twin) decay(times int) {
	w.t.Helper()
	w.note("Decay() %d times", times)
	for range times {
		w.h.Decay()
		w.g.Decay()
		w.unturned(w.p.decay())
		if w.h.Step() != w.p.step {
			break
		}
	}
	w.sound()
}

// unturned fails if scaling has turned an order of scores, or parted equal ones.
func (w *twin) unturned(ahead []int) {
	w.t.Helper()
	for v := 1; v <= w.n; v++ {
		for u := 1; u <= w.n; u++ {
			if ahead[v] >= ahead[u] && w.h.Score(v) < w.h.Score(u) {
				w.fail("of %d and %d the scores were %d and %d, and are %d and %d", v, u, ahead[v], ahead[u], w.h.Score(v), w.h.Score(u))
			}
		}
	}
}

// grow lets the step grow, while it stays at most so much.
func (w *twin) grow(most int) {
	w.t.Helper()
	times := 0
	for s := w.p.step; s+s/16+1 <= most; s += s/16 + 1 {
		times++
	}
	w.decay(times)
}

// pops pops all that is in it, which must be just these, in this order.
func (w *twin) pops(want ...int) {
	w.t.Helper()
	for _, v := range want {
		if got := w.pop(); got != v {
			w.fail("%d; not %d", got, v)
		}
	}
	if got := w.pop(); got != 0 {
		w.fail("%d; not 0", got)
	}
}

// drain pops all that is in it: each is better than the next one.
func (w *twin) drain() {
	w.t.Helper()
	last := 0
	for {
		v := w.pop()
		if v == 0 {
			return
		}
		if last != 0 && (w.h.Score(last) < w.h.Score(v) || w.h.Score(last) == w.h.Score(v) && last >= v) {
			w.fail("%d, of score %d, ahead of %d, of score %d", last, w.h.Score(last), v, w.h.Score(v))
		}
		last = v
	}
}

func TestExample(t *testing.T) {
	w := made(t, 3)
	w.bump(2)
	w.pops(2, 1, 3)
}

func TestNew(t *testing.T) {
	for n := range 20 {
		w := made(t, n)
		if w.h.Len() != n || w.h.Step() != 64 {
			t.Errorf("of %d: %d are in it, its step is %d", n, w.h.Len(), w.h.Step())
		}
		for v := 1; v <= n; v++ {
			if !w.h.Has(v) || w.h.Score(v) != 0 {
				t.Errorf("of %d: of %d: %v, %d", n, v, w.h.Has(v), w.h.Score(v))
			}
		}
		for v := 1; v <= n; v++ {
			if got := w.pop(); got != v {
				t.Errorf("of %d: popped is %d, not %d", n, got, v)
			}
		}
	}
}

func TestNewOfNoHeap(t *testing.T) {
	for _, n := range []int{math.MinInt, math.MinInt + 1, -api.MaxVar, -2, -1, million + 1, million + 2, 1 << 32, math.MaxInt - 1, math.MaxInt} {
		if h, e := New(n); h != nil || e != api.ErrArg {
			t.Errorf("New(%d): %v, %d", n, h, e)
		}
	}
}

func TestNoVariables(t *testing.T) {
	w := made(t, 0)
	w.pops()
	for _, v := range wrong(0) {
		w.push(v)
		w.bump(v)
	}
	w.push(1)
	w.bump(1)
	w.pops()
	w.decay(1)
	if w.h.Step() != 69 {
		t.Errorf("the step is %d", w.h.Step())
	}
	w.decay(1000)
	w.pops()
}

func TestOneVariable(t *testing.T) {
	w := made(t, 1)
	for range 3 {
		w.bump(1)
		w.pops(1)
		w.bump(1)
		w.pops()
		w.push(1)
		w.decay(1)
	}
	w.pops(1)
	w.grow(theTop)
	for range 5 {
		w.bump(1)
	}
	w.push(1)
	w.pops(1)
}

func TestMostVariables(t *testing.T) {
	h, e := New(million)
	if h == nil || e != api.OK || h.Len() != million || h.Step() != 64 || !h.Has(million) || h.Has(million+1) {
		t.Fatalf("%d, of %d", e, h.Len())
	}
	if h.Bump(million+1) != api.ErrArg || h.Push(million+1) != api.ErrArg || h.Score(million+1) != 0 {
		t.Error("of more than MaxVar")
	}
	if h.Bump(million) != api.OK || h.Score(million) != 64 || h.Push(million) != api.OK {
		t.Error("of MaxVar")
	}
	p := newPlain(million)
	p.scores[million] = 64
	r := numbers(9)
	for range 300000 {
		v := 1 + r.pick(million)
		h.Bump(v)
		p.scores[v] += 64
	}
	for h.Step() <= theTop-theTop/16 {
		h.Decay()
		p.step += p.step/16 + 1
	}
	// The second one scales: all scores that were given by the first step come to be 0.
	for _, v := range []int{7, 7, million - 1} {
		h.Bump(v)
		p.bump(v)
	}
	if h.Step() != p.step || h.Step() > 2*million {
		t.Errorf("the step is %d, not %d", h.Step(), p.step)
	}
	for i, want := range p.sorted() {
		if best, ok := h.Best(); best != want || !ok {
			t.Fatalf("the best one is %d, not %d; %d were popped", best, want, i)
		}
		if v, ok := h.Pop(); v != want || !ok || h.Has(v) || h.Len() != million-1-i {
			t.Fatalf("popped is %d, not %d; %d were popped", v, want, i)
		}
	}
	if v, ok := h.Pop(); v != 0 || ok {
		t.Errorf("of none: %d, %v", v, ok)
	}
	for v := million; v > 0; v-- {
		if h.Push(v) != api.OK || h.Len() != million-v+1 {
			t.Fatalf("Push(%d): %d are in it", v, h.Len())
		}
	}
	if best, ok := h.Best(); best != 7 || !ok {
		t.Errorf("the best one is %d, %v", best, ok)
	}
}

func TestNoneLeft(t *testing.T) {
	w := made(t, 2)
	for range 3 {
		w.pops(1, 2)
		for range 3 {
			if v, ok := w.h.Best(); v != 0 || ok {
				t.Errorf("Best() = %d, %v", v, ok)
			}
			if v, ok := w.h.Pop(); v != 0 || ok {
				t.Errorf("Pop() = %d, %v", v, ok)
			}
		}
		w.sound()
		w.push(2)
		w.push(1)
	}
}

func TestBestTakesNothingOut(t *testing.T) {
	w := made(t, 3)
	w.bump(3)
	for range 4 {
		if v, ok := w.h.Best(); v != 3 || !ok {
			t.Errorf("Best() = %d, %v", v, ok)
		}
	}
	w.sound()
	w.pops(3, 1, 2)
}

func TestPushOfWhatIsInIt(t *testing.T) {
	w := made(t, 4)
	for _, v := range []int{1, 3, 4, 4, 2} {
		w.push(v)
	}
	if w.h.Len() != 4 {
		t.Errorf("%d are in it", w.h.Len())
	}
	w.bump(3)
	w.push(3)
	w.push(3)
	w.pops(3, 1, 2, 4)
}

func TestPushBehindAPop(t *testing.T) {
	w := made(t, 3)
	w.bump(2)
	if w.pop() != 2 || w.h.Has(2) || w.h.Len() != 2 {
		t.Error("2 was not popped")
	}
	w.push(2)
	if !w.h.Has(2) || w.h.Len() != 3 || w.h.Score(2) != 64 {
		t.Error("2 was not pushed as it was")
	}
	w.push(2)
	w.pops(2, 1, 3)
	w.push(3)
	w.pops(3)
	for _, v := range []int{3, 1, 2} {
		w.push(v)
	}
	w.pops(2, 1, 3)
}

func TestBumpOfOneThatIsInIt(t *testing.T) {
	w := made(t, 5)
	w.bump(4)
	if w.h.Score(4) != 64 || w.h.Len() != 5 {
		t.Errorf("its score is %d", w.h.Score(4))
	}
	w.bump(5)
	w.bump(5)
	if w.h.Score(5) != 128 || w.h.Score(4) != 64 || w.h.Score(3) != 0 {
		t.Errorf("the scores are %d, %d, %d", w.h.Score(5), w.h.Score(4), w.h.Score(3))
	}
	w.pops(5, 4, 1, 2, 3)
}

func TestBumpOfOneThatIsNotInIt(t *testing.T) {
	w := made(t, 3)
	w.pop()
	w.pop()
	w.bump(1)
	w.bump(2)
	w.bump(2)
	if w.h.Has(1) || w.h.Has(2) || w.h.Len() != 1 {
		t.Error("a bump lets it be in it")
	}
	if w.h.Score(1) != 64 || w.h.Score(2) != 128 {
		t.Errorf("the scores are %d, %d", w.h.Score(1), w.h.Score(2))
	}
	w.push(1)
	w.push(2)
	w.pops(2, 1, 3)
}

func TestEqualScores(t *testing.T) {
	w := made(t, 6)
	for _, v := range []int{5, 2, 6} {
		w.bump(v)
	}
	w.pops(2, 5, 6, 1, 3, 4)
	for _, v := range []int{6, 4, 3, 5, 2, 1} {
		w.push(v)
	}
	w.bump(3)
	w.pops(2, 3, 5, 6, 1, 4)
}

func TestDecay(t *testing.T) {
	w := made(t, 2)
	for _, want := range []int{69, 74, 79, 84, 90, 96, 103} {
		w.decay(1)
		if w.h.Step() != want {
			t.Errorf("the step is %d, not %d", w.h.Step(), want)
		}
	}
	w.bump(2)
	if w.h.Score(2) != 103 || w.h.Score(1) != 0 || w.h.Step() != 103 {
		t.Errorf("the score is %d", w.h.Score(2))
	}
	w.decay(1)
	w.bump(1)
	w.bump(2)
	if w.h.Score(1) != 110 || w.h.Score(2) != 213 {
		t.Errorf("the scores are %d, %d", w.h.Score(1), w.h.Score(2))
	}
	w.pops(2, 1)
}

// counts is how often to bump by each of rising steps, so that a score comes to be just this; it fails if there is no such way.
func counts(t *testing.T, steps []int, score int) []int {
	t.Helper()
	list := make([]int, len(steps))
	// By the greatest steps first there are fewest bumps; what is left in the end is made up of the two least ones.
	for i := len(steps) - 1; i > 1; i-- {
		// So much is left that the two can make it up, whatever it is: they have no common part.
		spare := max(score-steps[0]*steps[1], 0)
		list[i] = spare / steps[i]
		score -= list[i] * steps[i]
	}
	for list[1] = 0; score >= list[1]*steps[1]; list[1]++ {
		if rest := score - list[1]*steps[1]; rest%steps[0] == 0 {
			list[0] = rest / steps[0]
			return list
		}
	}
	t.Fatal("there is no such way")
	return nil
}

// scored is a twin of three variables: by one bump more the score of 2 comes to be this; that of 1 is less, and not 0.
func scored(t *testing.T, score int) *twin {
	t.Helper()
	w := made(t, 3)
	var steps []int
	for s := theFirst; s <= theTop/4; s += s/16 + 1 {
		steps = append(steps, s)
	}
	list := counts(t, steps, score-steps[len(steps)-1])
	for i, times := range list {
		if i > 0 {
			w.decay(1)
		}
		// Not by greater steps: its score is to be less.
		if w.h.Step() < theTop/1024 {
			w.bump(1)
		}
		for range times {
			w.bump(2)
		}
	}
	return w
}

func TestScoreThatComesToBeJustTop(t *testing.T) {
	w := scored(t, theTop)
	step, other := w.h.Step(), w.h.Score(1)
	w.bump(2)
	if w.h.Score(2) != theTop || w.h.Score(1) != other || w.h.Step() != step {
		t.Errorf("it is scaled: %d, %d, %d", w.h.Score(1), w.h.Score(2), w.h.Step())
	}
	w.pops(2, 1, 3)
	w.bump(2)
	if w.h.Score(2) != (theTop+step)/million || w.h.Score(1) != other/million || w.h.Step() != step/million {
		t.Errorf("it is not scaled: %d, %d, %d", w.h.Score(1), w.h.Score(2), w.h.Step())
	}
}

func TestScoreThatComesToBeJustAboveTop(t *testing.T) {
	for _, isIn := range []bool{true, false} {
		w := scored(t, theTop+1)
		step, other := w.h.Step(), w.h.Score(1)
		if !isIn {
			w.pop()
		}
		w.bump(2)
		if w.h.Score(2) != million || w.h.Score(1) != other/million || w.h.Score(3) != 0 || w.h.Step() != step/million {
			t.Errorf("%d, %d, %d, the step is %d", w.h.Score(1), w.h.Score(2), w.h.Score(3), w.h.Step())
		}
		if w.h.Has(2) != isIn {
			t.Error("scaling turned what is in it")
		}
		w.push(2)
		w.pops(2, 1, 3)
	}
}

// stepped is a twin of two variables, of a step that no row of calls need come to.
func stepped(t *testing.T, step int) *twin {
	t.Helper()
	w := made(t, 2)
	w.grow(theTop / 8)
	w.bump(2)
	w.h.step, w.g.step, w.p.step = step, step, step
	w.sound()
	return w
}

func TestStepThatComesToBeJustTop(t *testing.T) {
	w := stepped(t, (theTop-1)/17*16)
	score := w.h.Score(2)
	w.decay(1)
	if w.h.Step() != theTop || w.h.Score(2) != score {
		t.Errorf("the step is %d, the score %d", w.h.Step(), w.h.Score(2))
	}
	w.bump(1)
	if w.h.Score(1) != theTop || w.h.Step() != theTop || w.h.Score(2) != score {
		t.Errorf("the step is %d, the scores %d, %d", w.h.Step(), w.h.Score(1), w.h.Score(2))
	}
	w.decay(1)
	if w.h.Step() != million+million/16 || w.h.Score(1) != million || w.h.Score(2) != score/million {
		t.Errorf("the step is %d, the scores %d, %d", w.h.Step(), w.h.Score(1), w.h.Score(2))
	}
	w.pops(1, 2)
}

func TestStepThatComesToBeJustAboveTop(t *testing.T) {
	w := stepped(t, (theTop-1)/17*16+1)
	score := w.h.Score(2)
	w.decay(1)
	if w.h.Step() != million || w.h.Score(2) != score/million || w.h.Score(1) != 0 {
		t.Errorf("the step is %d, the scores %d, %d", w.h.Step(), w.h.Score(1), w.h.Score(2))
	}
}

func TestStepThatGrowsBeyondTop(t *testing.T) {
	w := made(t, 3)
	w.bump(3)
	w.decay(386)
	ahead := w.h.Step()
	w.bump(2)
	w.pop()
	if ahead <= theTop/17*16 || ahead > theTop || w.h.Score(2) != ahead || w.h.Score(3) != 64 {
		t.Errorf("the step is %d", ahead)
	}
	w.decay(1)
	if w.h.Step() != 1069241 || w.h.Step() != (ahead+ahead/16+1)/million || w.h.Score(2) != ahead/million || w.h.Score(3) != 0 {
		t.Errorf("the step is %d, the scores %d, %d", w.h.Step(), w.h.Score(2), w.h.Score(3))
	}
	w.push(2)
	w.pops(2, 1, 3)
}

func TestStepIsOneAtLeast(t *testing.T) {
	w := made(t, 2)
	w.grow(million - 1)
	step := w.h.Step()
	w.bump(1)
	score := 0
	for ; score <= theTop-step; score += step {
		w.h.Bump(2)
		w.g.Bump(2)
	}
	if w.h.Step() != step || w.h.Score(2) != score || w.h.Score(1) != step {
		t.Fatalf("it is scaled: the step is %d, the score %d", w.h.Step(), w.h.Score(2))
	}
	w.p.scores[2] = score
	w.bump(2)
	if w.h.Step() != 1 || w.h.Score(2) != million || w.h.Score(1) != 0 {
		t.Errorf("the step is %d, the scores %d, %d", w.h.Step(), w.h.Score(1), w.h.Score(2))
	}
	w.bump(1)
	if w.h.Score(1) != 1 {
		t.Errorf("the score is %d", w.h.Score(1))
	}
	w.decay(1)
	if w.h.Step() != 2 {
		t.Errorf("the step is %d", w.h.Step())
	}
}

// raised is a twin whose variables have scores by so many bumps each, and whose step is nearly Top.
func raised(t *testing.T, bumps ...int) *twin {
	t.Helper()
	w := made(t, len(bumps))
	for i, times := range bumps {
		for range times {
			w.bump(i + 1)
		}
	}
	w.grow(theTop)
	return w
}

func TestScoresThatComeToBeEqual(t *testing.T) {
	w := raised(t, 1, 2, 3, 4, 5, 6, 0)
	if best, _ := w.h.Best(); best != 6 {
		t.Errorf("the best one is %d", best)
	}
	w.decay(1)
	for v := 1; v <= 7; v++ {
		if w.h.Score(v) != 0 {
			t.Errorf("the score of %d is %d", v, w.h.Score(v))
		}
	}
	w.pops(1, 2, 3, 4, 5, 6, 7)
	for _, v := range []int{5, 7, 6, 3, 4, 2, 1} {
		w.push(v)
	}
	w.pops(1, 2, 3, 4, 5, 6, 7)
}

func TestScoresThatComeToBeEqualByABump(t *testing.T) {
	w := raised(t, 1, 2, 3, 4, 5, 6, 0)
	w.bump(4)
	if best, _ := w.h.Best(); best != 4 || w.h.Score(5) != 5*64 {
		t.Errorf("the best one is %d", best)
	}
	// It is scaled by one that is not in it; it is better than all others nevertheless.
	w.pop()
	w.bump(4)
	if w.h.Score(5) != 0 || w.h.Has(4) {
		t.Errorf("the score is %d", w.h.Score(5))
	}
	if best, _ := w.h.Best(); best != 1 {
		t.Errorf("the best one is %d", best)
	}
	w.push(4)
	w.pops(4, 1, 2, 3, 5, 6, 7)
}

func TestScoresThatStayApart(t *testing.T) {
	w := made(t, 3)
	w.grow(theTop / 4)
	step := w.h.Step()
	w.bump(2)
	w.bump(3)
	w.decay(1)
	w.bump(3)
	for w.h.Step() > million*2 {
		w.bump(1)
	}
	if w.h.Score(2) != step/million || w.h.Score(3) != (step+step+step/16+1)/million {
		t.Errorf("the scores are %d, %d", w.h.Score(2), w.h.Score(3))
	}
	w.pops(1, 3, 2)
}

func TestOfWhatIsNoVariable(t *testing.T) {
	for _, n := range []int{0, 1, 2, 5} {
		w := made(t, n)
		w.bump(n)
		w.pop()
		w.grow(theTop)
		for _, v := range wrong(n) {
			if e := w.h.Push(v); e != api.ErrArg {
				t.Errorf("of %d: Push(%d): %d", n, v, e)
			}
			w.sound()
			if e := w.h.Bump(v); e != api.ErrArg {
				t.Errorf("of %d: Bump(%d): %d", n, v, e)
			}
			w.sound()
			if w.h.Has(v) || w.h.Score(v) != 0 {
				t.Errorf("of %d: of %d: %v, %d", n, v, w.h.Has(v), w.h.Score(v))
			}
		}
		w.drain()
	}
}

// numbers is a row of numbers, the same for each seed.
type numbers uint64

// pick is the next one, below n.
func (r *numbers) pick(n int) int {
	*r = *r*6364136223846793005 + 1442695040888963407
	return int(*r>>33) % n
}

// wander asks this and that of a twin, so often; one variable less or more than there are is no variable.
func wander(w *twin, r *numbers, calls int) {
	w.t.Helper()
	for range calls {
		switch k := r.pick(40); {
		case k < 16:
			w.bump(r.pick(w.n + 2))
		case k < 25:
			w.push(r.pick(w.n + 2))
		case k < 33:
			w.pop()
		case k < 37:
			w.decay(1 + r.pick(3))
		case k < 38:
			w.decay(r.pick(300))
		default:
			// Here a bump or two, or one decay more, scales.
			w.grow(theTop >> r.pick(3))
		}
	}
}

func TestAgainstAPlainHeap(t *testing.T) {
	for seed := range 400 {
		r := numbers(seed)
		w := made(t, r.pick(9))
		wander(w, &r, 150)
		w.drain()
		for v := w.n; v > 0; v-- {
			w.push(v)
		}
		w.drain()
	}
}

func TestAgainstAPlainHeapOfMoreVariables(t *testing.T) {
	for seed := range 12 {
		r := numbers(seed + 1000)
		w := made(t, 40+r.pick(60))
		wander(w, &r, 400)
		for v := 1; v <= w.n; v++ {
			w.push(v)
		}
		want := w.p.sorted()
		w.pops(want...)
	}
}

// asked is what may be asked of a twin of three variables, one by one.
func asked() []func(*twin) {
	return []func(*twin){
		func(w *twin) { w.bump(1) },
		func(w *twin) { w.bump(2) },
		func(w *twin) { w.bump(3) },
		func(w *twin) { w.push(1) },
		func(w *twin) { w.push(2) },
		func(w *twin) { w.pop() },
		func(w *twin) { w.decay(1) },
		func(w *twin) { w.grow(theTop) },
	}
}

func TestAllShortRowsOfCalls(t *testing.T) {
	const long = 5
	ask := asked()
	rows := 1
	for range long {
		rows *= len(ask)
	}
	for row := range rows {
		w := made(t, 3)
		for rest := row; len(w.log) <= long; rest /= len(ask) {
			ask[rest%len(ask)](w)
		}
		w.decay(1)
		w.drain()
	}
}

// nobodys fails unless this is a heap that New did not give.
func nobodys(t *testing.T, h *Heap) {
	t.Helper()
	for _, v := range []int{math.MinInt, -1, 0, 1, 2, 3, api.MaxVar, math.MaxInt} {
		if e := h.Push(v); e != api.ErrArg {
			t.Errorf("Push(%d): %d", v, e)
		}
		if e := h.Bump(v); e != api.ErrArg {
			t.Errorf("Bump(%d): %d", v, e)
		}
		h.Decay()
		if h.Has(v) || h.Score(v) != 0 || h.Step() != 0 || h.Len() != 0 {
			t.Errorf("of %d: %v, %d; %d, %d", v, h.Has(v), h.Score(v), h.Step(), h.Len())
		}
		if best, ok := h.Best(); best != 0 || ok {
			t.Errorf("Best() = %d, %v", best, ok)
		}
		if best, ok := h.Pop(); best != 0 || ok {
			t.Errorf("Pop() = %d, %v", best, ok)
		}
	}
}

func TestOfAHeapThatNewDidNotGive(t *testing.T) {
	nobodys(t, nil)
	nobodys(t, &Heap{})
	nobodys(t, new(Heap))
	w := made(t, 3)
	w.bump(2)
	twin := *w.h
	nobodys(t, &twin)
	w.sound()
	w.pop()
	nobodys(t, &twin)
	w.sound()
	w.pops(1, 3)
}

func TestHeapsShareNothing(t *testing.T) {
	w, other := made(t, 4), made(t, 4)
	w.bump(3)
	w.pop()
	w.decay(500)
	other.sound()
	other.pops(1, 2, 3, 4)
	w.sound()
	w.drain()
}
