package aig

import (
	"fmt"
	"math"
	"slices"
	"strings"
	"testing"

	"fathom/api"
)

// in is an input, and and an "and" node.
var in = api.Gate{A: -1, B: -1}

func and(a, b int) api.Gate {
	return api.Gate{A: a, B: b}
}

// wrong is numbers that are no literals of a graph of so many nodes.
func wrong(nodes int) []int {
	past := 2*nodes + 2
	return []int{math.MinInt, math.MinInt + 1, math.MinInt32, -past - 1, -past, -3, -2, -1, past, past + 1, past + 2, 1 << 32, math.MaxInt - 1, math.MaxInt}
}

// twin is a graph, another one of which the same is asked, and a plain one.
type twin struct {
	t    *testing.T
	x, y *Aig
	p    *plain
	log  []string
	// tables is those of the nodes that were looked at.
	tables []uint64
	// loaded is how many nodes did not come by calls.
	loaded int
}

// made is a twin without nodes.
func made(t *testing.T) *twin {
	t.Helper()
	w := &twin{t: t, x: New(), y: New(), p: &plain{}}
	if w.x == nil || w.y == nil || w.x == w.y {
		t.Fatal("New gives none, or one twice")
	}
	w.sound()
	return w
}

// loaded is a twin of nodes.
func loaded(t *testing.T, g []api.Gate) *twin {
	t.Helper()
	w := &twin{t: t, p: &plain{nodes: slices.Clone(g)}, loaded: len(g)}
	var e, e2 api.Errno
	w.x, e = Load(g)
	w.y, e2 = Load(g)
	if w.x == nil || w.y == nil || w.x == w.y || e != api.OK || e2 != api.OK {
		t.Fatalf("Load of %d nodes: %d, %d", len(g), e, e2)
	}
	return w
}

// fail ends the test, and tells what was asked.
func (w *twin) fail(format string, args ...any) {
	w.t.Helper()
	last := w.log[max(len(w.log)-100, 0):]
	w.t.Fatalf("%s\nof %v, behind %s", fmt.Sprintf(format, args...), w.p.nodes[:min(w.loaded, 20)], strings.Join(last, ", "))
}

// told fails unless both told a literal that must be told.
func (w *twin) told(l, l2, want int, format string, args ...any) int {
	w.t.Helper()
	w.log = append(w.log, fmt.Sprintf(format, args...))
	if l != want || l2 != want {
		w.fail("%d, and of its like %d; not %d", l, l2, want)
	}
	if w.x.Len() != len(w.p.nodes) || w.y.Len() != len(w.p.nodes) {
		w.fail("%d nodes, and of its like %d; not %d", w.x.Len(), w.y.Len(), len(w.p.nodes))
	}
	return l
}

func (w *twin) in() int {
	w.t.Helper()
	return w.told(w.x.In(), w.y.In(), w.p.in(), "In()")
}

func (w *twin) and(a, b int) int {
	w.t.Helper()
	return w.told(w.x.And(a, b), w.y.And(a, b), w.p.and(a, b), "And(%d, %d)", a, b)
}

func (w *twin) or(a, b int) int {
	w.t.Helper()
	return w.told(w.x.Or(a, b), w.y.Or(a, b), w.p.or(a, b), "Or(%d, %d)", a, b)
}

func (w *twin) xor(a, b int) int {
	w.t.Helper()
	return w.told(w.x.Xor(a, b), w.y.Xor(a, b), w.p.xor(a, b), "Xor(%d, %d)", a, b)
}

func (w *twin) ite(c, a, b int) int {
	w.t.Helper()
	return w.told(w.x.Ite(c, a, b), w.y.Ite(c, a, b), w.p.ite(c, a, b), "Ite(%d, %d, %d)", c, a, b)
}

func (w *twin) all(l ...int) int {
	w.t.Helper()
	handed := slices.Clone(l)
	told := w.told(w.x.All(l), w.y.All(l), w.p.all(l), "All(%v)", l)
	if !slices.Equal(l, handed) {
		w.fail("All turned what it was handed")
	}
	return told
}

// sound fails unless both have just the plain one's nodes, and know just its literals.
func (w *twin) sound() {
	w.t.Helper()
	n := len(w.p.nodes)
	for _, x := range []*Aig{w.x, w.y} {
		if !slices.Equal(x.Nodes(), w.p.nodes) || x.Len() != n {
			w.fail("%d nodes: %v; not %v", x.Len(), x.Nodes(), w.p.nodes)
		}
		for l := range 2*n + 2 {
			if !x.Is(l) {
				w.fail("%d is no literal of %d nodes", l, n)
			}
		}
		for _, l := range wrong(n) {
			if x.Is(l) {
				w.fail("%d is a literal of %d nodes", l, n)
			}
		}
	}
	if Check(w.x.Nodes()) != api.OK {
		w.fail("Check refuses %v", w.x.Nodes())
	}
	if w.loaded == 0 && twice(w.x.Nodes()) {
		w.fail("two nodes of the same two literals: %v", w.x.Nodes())
	}
}

// means fails unless a literal's value is as a table says, in all ways in which six inputs may be.
func (w *twin) means(l int, want uint64) {
	w.t.Helper()
	if got := w.table(l); got != want {
		w.fail("of %d the table is %064b; not %064b", l, got, want)
	}
}

// table is a literal's.
func (w *twin) table(l int) uint64 {
	if len(w.tables) < len(w.p.nodes) {
		w.tables = tables(w.p.nodes)
	}
	return table(w.tables, l)
}

// evals fails unless Eval and Value tell of each literal what its table says.
func (w *twin) evals() {
	w.t.Helper()
	g := w.x.Nodes()
	for m := range tableWays {
		v := Eval(g, way(m))
		if len(v) != len(g) {
			w.fail("of %d nodes %d values", len(g), len(v))
		}
		for l := range 2*len(g) + 2 {
			if Value(v, l) != (w.table(l)>>m&1 == 1) {
				w.fail("by %v the value of %d is %v", way(m), l, Value(v, l))
			}
		}
	}
}

// numbers is a row of numbers that are as if picked.
type numbers uint64

// pick is the next one, below n.
func (r *numbers) pick(n int) int {
	*r = *r*6364136223846793005 + 1442695040888963407
	return int(*r>>33) % n
}

func TestExample(t *testing.T) {
	x := New()
	if a, b := x.In(), x.In(); a != 2 || b != 4 {
		t.Errorf("the inputs are %d, %d", a, b)
	}
	if l := x.And(2, 4); l != 6 {
		t.Errorf("And(2, 4) = %d", l)
	}
	if l := x.And(6, 2); l != 6 {
		t.Errorf("And(6, 2) = %d", l)
	}
	if l := x.And(6, 3); l != 0 {
		t.Errorf("And(6, 3) = %d", l)
	}
	if g := x.Nodes(); !slices.Equal(g, []api.Gate{in, in, and(2, 4)}) || x.Len() != 3 {
		t.Errorf("its nodes are %v", g)
	}
}

func TestNoNodes(t *testing.T) {
	w := made(t)
	if w.x.Len() != 0 || len(w.x.Nodes()) != 0 || !w.x.Is(0) || !w.x.Is(1) || w.x.Is(2) || w.x.Is(3) || w.x.Is(-1) {
		t.Error("of New")
	}
	for a := -3; a <= 4; a++ {
		for b := -3; b <= 4; b++ {
			w.and(a, b)
			w.or(a, b)
			w.xor(a, b)
			w.all(a, b)
			for c := -3; c <= 4; c++ {
				w.ite(c, a, b)
			}
		}
	}
	w.sound()
	w.evals()
	if v := Eval(nil, []bool{true}); len(v) != 0 {
		t.Errorf("Eval tells %v of no nodes", v)
	}
	if x, e := Load(nil); e != api.OK || x == nil || x.Len() != 0 || x.In() != 2 {
		t.Error("of Load")
	}
	if x, e := Load([]api.Gate{}); e != api.OK || x == nil || x.Len() != 0 || x.In() != 2 {
		t.Error("of Load of an empty list")
	}
	if Check(nil) != api.OK || Check([]api.Gate{}) != api.OK {
		t.Error("of Check")
	}
}

func TestIn(t *testing.T) {
	w := made(t)
	for n := range 100 {
		if l := w.in(); l != 2*n+2 {
			t.Fatalf("the input behind %d nodes is %d", n, l)
		}
	}
	w.sound()
	w = made(t)
	a, b := w.in(), w.in()
	w.and(a, b)
	if c := w.in(); c != 8 {
		t.Errorf("the input behind an \"and\" node is %d", c)
	}
	w.sound()
}

// asked is an "and" that is asked for, of some nodes, what it is, and the node that comes by that, if one does.
type asked struct {
	name  string
	nodes []api.Gate
	a, b  int
	want  int
	more  []api.Gate
}

// asks holds each of such "and"s against what is made, with a and b either way round.
func asks(t *testing.T, list []asked) {
	t.Helper()
	for _, k := range list {
		t.Run(k.name, func(t *testing.T) {
			for _, pair := range [][2]int{{k.a, k.b}, {k.b, k.a}} {
				w := loaded(t, k.nodes)
				if l := w.and(pair[0], pair[1]); l != k.want {
					t.Errorf("And(%d, %d) = %d, not %d", pair[0], pair[1], l, k.want)
				}
				if g := w.x.Nodes(); !slices.Equal(g, slices.Concat(k.nodes, k.more)) {
					t.Errorf("And(%d, %d) leaves %v", pair[0], pair[1], g)
				}
				w.sound()
				w.means(k.want, w.table(k.a)&w.table(k.b))
			}
		})
	}
}

func TestRule1(t *testing.T) {
	three := []api.Gate{in, in, and(2, 4)}
	asks(t, []asked{
		{name: "a is 0", nodes: three, a: 0, b: 4, want: 0},
		{name: "a is 0, b is negated", nodes: three, a: 0, b: 5, want: 0},
		{name: "a is 0, b an and node", nodes: three, a: 0, b: 6, want: 0},
		{name: "a is 0, b 1", nodes: three, a: 0, b: 1, want: 0},
		{name: "both are 0", nodes: three, a: 0, b: 0, want: 0},
		{name: "a is 1", nodes: three, a: 1, b: 4, want: 4},
		{name: "a is 1, b is negated", nodes: three, a: 1, b: 5, want: 5},
		{name: "a is 1, b an and node", nodes: three, a: 1, b: 6, want: 6},
		{name: "a is 1, b an and node, negated", nodes: three, a: 1, b: 7, want: 7},
		{name: "both are 1", nodes: three, a: 1, b: 1, want: 1},
		{name: "a is b", nodes: three, a: 2, b: 2, want: 2},
		{name: "a is b, negated", nodes: three, a: 3, b: 3, want: 3},
		{name: "a is b, an and node", nodes: three, a: 6, b: 6, want: 6},
		{name: "a is b, an and node, negated", nodes: three, a: 7, b: 7, want: 7},
		{name: "b is a's negation", nodes: three, a: 4, b: 5, want: 0},
		{name: "b is a's negation, of an and node", nodes: three, a: 6, b: 7, want: 0},
		{name: "b is not the next node's negation", nodes: three, a: 3, b: 4, want: 8, more: []api.Gate{and(3, 4)}},
	})
}

func TestRule2(t *testing.T) {
	plus := []api.Gate{in, in, and(2, 4)}
	minus := []api.Gate{in, in, and(3, 5)}
	deep := []api.Gate{in, in, in, and(2, 4), and(6, 8), and(6, 9)}
	asks(t, []asked{
		{name: "a is c", nodes: plus, a: 2, b: 6, want: 6},
		{name: "a is d", nodes: plus, a: 4, b: 6, want: 6},
		{name: "a's negation is c", nodes: plus, a: 3, b: 6, want: 0},
		{name: "a's negation is d", nodes: plus, a: 5, b: 6, want: 0},
		{name: "a is c, negated", nodes: minus, a: 3, b: 6, want: 6},
		{name: "a is d, negated", nodes: minus, a: 5, b: 6, want: 6},
		{name: "a's negation is c, negated", nodes: minus, a: 2, b: 6, want: 0},
		{name: "a's negation is d, negated", nodes: minus, a: 4, b: 6, want: 0},
		{name: "a is an and node", nodes: deep, a: 8, b: 10, want: 10},
		{name: "a's negation is an and node", nodes: deep, a: 9, b: 10, want: 0},
		{name: "a is an and node, negated", nodes: deep, a: 9, b: 12, want: 12},
		{name: "a's negation is an and node, negated", nodes: deep, a: 8, b: 12, want: 0},
		{name: "just b's own literals count", nodes: deep, a: 2, b: 10, want: 14, more: []api.Gate{and(2, 10)}},
		{name: "just b's own literals count, negated", nodes: deep, a: 3, b: 10, want: 14, more: []api.Gate{and(3, 10)}},
		{name: "two and nodes of a common literal", nodes: deep, a: 10, b: 12, want: 14, more: []api.Gate{and(10, 12)}},
		{name: "a is no literal of b", nodes: deep, a: 6, b: 8, want: 10},
		{name: "a is one of both of b's, that are unlike", nodes: []api.Gate{in, and(2, 3)}, a: 2, b: 4, want: 4},
		{name: "a is the other one of these", nodes: []api.Gate{in, and(2, 3)}, a: 3, b: 4, want: 4},
	})
}

func TestRule3(t *testing.T) {
	plus := []api.Gate{in, in, and(2, 4)}
	minus := []api.Gate{in, in, and(3, 5)}
	deep := []api.Gate{in, in, in, and(2, 4), and(6, 8), and(6, 9)}
	asks(t, []asked{
		{name: "a's negation is c", nodes: plus, a: 3, b: 7, want: 3},
		{name: "a's negation is d", nodes: plus, a: 5, b: 7, want: 5},
		{name: "a is c", nodes: plus, a: 2, b: 7, want: 8, more: []api.Gate{and(2, 5)}},
		{name: "a is d", nodes: plus, a: 4, b: 7, want: 8, more: []api.Gate{and(3, 4)}},
		{name: "a's negation is c, negated", nodes: minus, a: 2, b: 7, want: 2},
		{name: "a's negation is d, negated", nodes: minus, a: 4, b: 7, want: 4},
		{name: "a is c, negated", nodes: minus, a: 3, b: 7, want: 8, more: []api.Gate{and(3, 4)}},
		{name: "a is d, negated", nodes: minus, a: 5, b: 7, want: 8, more: []api.Gate{and(2, 5)}},
		{name: "what is asked for then is there", nodes: []api.Gate{in, in, and(2, 5), and(2, 4)}, a: 2, b: 9, want: 6},
		{name: "a is c, an and node", nodes: deep, a: 8, b: 11, want: 14, more: []api.Gate{and(7, 8)}},
		{name: "a's negation is d, an and node", nodes: deep, a: 9, b: 11, want: 9},
		{name: "a is d, an and node, negated", nodes: deep, a: 9, b: 13, want: 14, more: []api.Gate{and(7, 9)}},
		{name: "a's negation is an and node, negated", nodes: deep, a: 8, b: 13, want: 8},
		{name: "d's negation is an and node's", nodes: deep, a: 6, b: 11, want: 12},
		{name: "d's negation is an and node", nodes: deep, a: 6, b: 13, want: 10},
		{name: "just b's own literals count", nodes: deep, a: 2, b: 11, want: 14, more: []api.Gate{and(2, 11)}},
		{name: "two and nodes of a common literal", nodes: deep, a: 11, b: 13, want: 14, more: []api.Gate{and(11, 13)}},
		{name: "a is one of both of b's, that are unlike", nodes: []api.Gate{in, and(2, 3)}, a: 2, b: 5, want: 2},
		{name: "a is the other one of these", nodes: []api.Gate{in, and(2, 3)}, a: 3, b: 5, want: 3},
		{name: "a is both of b's", nodes: []api.Gate{in, and(2, 2)}, a: 2, b: 5, want: 0},
		{name: "rule 2 follows", nodes: []api.Gate{in, in, and(2, 4), and(2, 7)}, a: 2, b: 9, want: 6},
		{name: "rule 3 follows, and rule 2", nodes: []api.Gate{in, in, and(2, 4), and(2, 7), and(2, 9)}, a: 2, b: 11, want: 8},
		{name: "rule 3 follows, twice", nodes: []api.Gate{in, in, and(2, 4), and(2, 6)}, a: 2, b: 9, want: 10, more: []api.Gate{and(2, 5)}},
		{name: "rule 1 follows: 1", nodes: []api.Gate{in, and(0, 2)}, a: 2, b: 5, want: 2},
		{name: "rule 1 follows: 0", nodes: []api.Gate{in, and(1, 2)}, a: 2, b: 5, want: 0},
	})
}

func TestRule4(t *testing.T) {
	plus := []api.Gate{in, in, and(2, 4)}
	asks(t, []asked{
		{name: "a node of just these", nodes: plus, a: 2, b: 4, want: 6},
		{name: "none, of a's negation", nodes: plus, a: 3, b: 4, want: 8, more: []api.Gate{and(3, 4)}},
		{name: "none, of b's negation", nodes: plus, a: 2, b: 5, want: 8, more: []api.Gate{and(2, 5)}},
		{name: "none, of both negations", nodes: plus, a: 3, b: 5, want: 8, more: []api.Gate{and(3, 5)}},
		{name: "of and nodes", nodes: []api.Gate{in, in, in, in, and(2, 4), and(6, 8), and(10, 12)}, a: 10, b: 12, want: 14},
		{name: "of and nodes, negated", nodes: []api.Gate{in, in, in, in, and(2, 4), and(6, 8), and(11, 13)}, a: 11, b: 13, want: 14},
		{name: "of an and node, and one negated", nodes: []api.Gate{in, in, in, in, and(2, 4), and(6, 8), and(10, 13)}, a: 10, b: 13, want: 14},
		{name: "more, of and nodes", nodes: []api.Gate{in, in, in, in, and(2, 4), and(6, 8)}, a: 10, b: 13, want: 14, more: []api.Gate{and(10, 13)}},
		{name: "the greater one first", nodes: []api.Gate{in, in, and(4, 2)}, a: 2, b: 4, want: 6},
		{name: "the greater one first, negated", nodes: []api.Gate{in, in, and(5, 2)}, a: 2, b: 5, want: 6},
		{name: "two nodes of the same", nodes: []api.Gate{in, in, and(2, 4), and(2, 4)}, a: 2, b: 4, want: 6},
		{name: "two nodes of the same, either way round", nodes: []api.Gate{in, in, and(4, 2), and(2, 4)}, a: 2, b: 4, want: 6},
	})
}

func TestTheFirstRuleThatApplies(t *testing.T) {
	asks(t, []asked{
		{name: "1 ahead of 4", nodes: []api.Gate{in, and(2, 2)}, a: 2, b: 2, want: 2},
		{name: "1 ahead of 4, of a negation", nodes: []api.Gate{in, and(2, 3)}, a: 2, b: 3, want: 0},
		{name: "1 ahead of 4, of 1", nodes: []api.Gate{in, and(1, 2)}, a: 1, b: 2, want: 2},
		{name: "1 ahead of 2, of 0", nodes: []api.Gate{in, and(0, 2)}, a: 0, b: 4, want: 0},
		{name: "1 ahead of 2, of 1", nodes: []api.Gate{in, and(0, 2)}, a: 1, b: 4, want: 4},
		{name: "1 ahead of 3, of 0", nodes: []api.Gate{in, and(1, 2)}, a: 0, b: 5, want: 0},
		{name: "1 ahead of 3, of 1", nodes: []api.Gate{in, and(1, 2)}, a: 1, b: 5, want: 5},
		{name: "2 ahead of 4", nodes: []api.Gate{in, in, and(2, 4), and(2, 6)}, a: 2, b: 6, want: 6},
		{name: "2 ahead of 4, 0", nodes: []api.Gate{in, in, and(2, 4), and(3, 6)}, a: 3, b: 6, want: 0},
		{name: "3 ahead of 4", nodes: []api.Gate{in, in, and(2, 4), and(3, 7)}, a: 3, b: 7, want: 3},
		{name: "3 ahead of 4, a node more", nodes: []api.Gate{in, in, and(2, 4), and(2, 7)}, a: 2, b: 7, want: 10, more: []api.Gate{and(2, 5)}},
		{name: "3 ahead of 4, and then 4", nodes: []api.Gate{in, in, and(2, 4), and(2, 7), and(2, 5)}, a: 2, b: 7, want: 10},
	})
}

func TestOr(t *testing.T) {
	w := made(t)
	a, b := w.in(), w.in()
	if l := w.or(a, b); l != 7 {
		t.Errorf("Or(2, 4) = %d", l)
	}
	w.sound()
	w.means(7, w.table(a)|w.table(b))
	for _, k := range [][3]int{{0, 2, 2}, {0, 3, 3}, {1, 2, 1}, {2, 2, 2}, {2, 3, 1}, {0, 0, 0}, {0, 1, 1}, {1, 1, 1}, {2, 4, 7}, {2, 7, 7}, {3, 7, 1}} {
		if l, l2 := w.or(k[0], k[1]), w.or(k[1], k[0]); l != k[2] || l2 != k[2] {
			t.Errorf("Or(%d, %d) = %d, %d; not %d", k[0], k[1], l, l2, k[2])
		}
	}
	if !slices.Equal(w.x.Nodes(), []api.Gate{in, in, and(3, 5)}) {
		t.Errorf("its nodes are %v", w.x.Nodes())
	}
}

func TestXor(t *testing.T) {
	w := made(t)
	a, b := w.in(), w.in()
	if l := w.xor(a, b); l != 11 {
		t.Errorf("Xor(2, 4) = %d", l)
	}
	// In this order: that the first one is true and the second is not, then the other way round, then either.
	if !slices.Equal(w.x.Nodes(), []api.Gate{in, in, and(2, 5), and(3, 4), and(7, 9)}) {
		t.Errorf("its nodes are %v", w.x.Nodes())
	}
	w.means(11, w.table(a)^w.table(b))
	for _, k := range [][3]int{{0, 2, 2}, {1, 2, 3}, {2, 2, 0}, {2, 3, 1}, {0, 0, 0}, {0, 1, 1}, {1, 1, 0}, {4, 2, 11}} {
		if l := w.xor(k[0], k[1]); l != k[2] {
			t.Errorf("Xor(%d, %d) = %d, not %d", k[0], k[1], l, k[2])
		}
	}
	w.sound()
}

func TestIte(t *testing.T) {
	w := made(t)
	c, a, b := w.in(), w.in(), w.in()
	if l := w.ite(c, a, b); l != 13 {
		t.Errorf("Ite(2, 4, 6) = %d", l)
	}
	if !slices.Equal(w.x.Nodes(), []api.Gate{in, in, in, and(2, 4), and(3, 6), and(9, 11)}) {
		t.Errorf("its nodes are %v", w.x.Nodes())
	}
	w.means(13, w.table(c)&w.table(a)|^w.table(c)&w.table(b))
	for _, k := range [][4]int{{0, 4, 6, 6}, {1, 4, 6, 4}, {2, 1, 0, 2}, {2, 0, 1, 3}, {2, 0, 0, 0}, {2, 1, 1, 1}, {2, 2, 2, 2}} {
		if l := w.ite(k[0], k[1], k[2]); l != k[3] {
			t.Errorf("Ite(%d, %d, %d) = %d, not %d", k[0], k[1], k[2], l, k[3])
		}
	}
	w.sound()
}

func TestAll(t *testing.T) {
	w := made(t)
	if w.all() != 1 || w.x.All(nil) != 1 || w.x.All([]int{}) != 1 {
		t.Error("of none")
	}
	a, b, c, d := w.in(), w.in(), w.in(), w.in()
	for l := range 10 {
		if w.all(l) != l || w.all(l, l) != l || w.all(1, l) != l || w.all(l, 1) != l || w.all(l, l^1) != 0 || w.all(0, l) != 0 {
			t.Errorf("of %d alone, or with itself, or a constant", l)
		}
	}
	if w.x.Len() != 4 {
		t.Errorf("its nodes are %v", w.x.Nodes())
	}
	if l := w.all(b, a, c, d); l != 14 {
		t.Errorf("of four: %d", l)
	}
	// The first one and the second, and so on.
	if !slices.Equal(w.x.Nodes(), []api.Gate{in, in, in, in, and(2, 4), and(6, 10), and(8, 12)}) {
		t.Errorf("its nodes are %v", w.x.Nodes())
	}
	w.means(14, w.table(a)&w.table(b)&w.table(c)&w.table(d))
	for _, k := range []struct {
		l    []int
		want int
	}{
		{[]int{a, b, b}, 10},
		{[]int{b, a, b}, 10},
		{[]int{a, b, a, b, c, c}, 12},
		{[]int{a, b, c, d, d}, 14},
		{[]int{a, b, a ^ 1}, 0},
		{[]int{a, b, c, c ^ 1, d}, 0},
		{[]int{a, 1, b, 1, c}, 12},
		{[]int{a, b, 0, c}, 0},
		// Just the last node's own two literals are looked at.
		{[]int{a, b, c, a}, 16},
	} {
		if l := w.all(k.l...); l != k.want {
			t.Errorf("of %v: %d, not %d", k.l, l, k.want)
		}
	}
	w.sound()
}

func TestAllOfMany(t *testing.T) {
	w := made(t)
	var list []int
	for range 500 {
		list = append(list, w.in())
	}
	l := w.all(list...)
	if l != 2*999 || w.x.Len() != 999 {
		t.Errorf("of 500 inputs: %d, of %d nodes", l, w.x.Len())
	}
	w.sound()
	g := w.x.Nodes()
	ins := slices.Repeat([]bool{true}, 500)
	if !Value(Eval(g, ins), l) {
		t.Error("all are true, and it is not")
	}
	for i := range ins {
		ins[i] = false
		if Value(Eval(g, ins), l) {
			t.Errorf("the input %d is false, and it is not", i)
		}
		ins[i] = true
	}
}

func TestWrongLiterals(t *testing.T) {
	g := []api.Gate{in, in, in, and(2, 4)}
	w := loaded(t, g)
	for _, l := range wrong(len(g)) {
		for k := range 10 {
			if w.and(l, k) != -1 || w.and(k, l) != -1 {
				t.Errorf("And of %d and %d", l, k)
			}
			if w.or(l, k) != -1 || w.or(k, l) != -1 {
				t.Errorf("Or of %d and %d", l, k)
			}
			if w.xor(l, k) != -1 || w.xor(k, l) != -1 {
				t.Errorf("Xor of %d and %d", l, k)
			}
			if w.all(l) != -1 || w.all(l, k) != -1 || w.all(k, l) != -1 {
				t.Errorf("All of %d and %d", l, k)
			}
		}
		for _, l2 := range wrong(len(g)) {
			if w.and(l, l2) != -1 || w.or(l, l2) != -1 || w.xor(l, l2) != -1 || w.all(l, l2) != -1 {
				t.Errorf("of %d and %d", l, l2)
			}
		}
	}
	if !slices.Equal(w.x.Nodes(), g) {
		t.Errorf("its nodes are %v", w.x.Nodes())
	}
	w.sound()
}

func TestWrongLiteralsOfIte(t *testing.T) {
	g := []api.Gate{in, in, in, and(2, 4)}
	for _, l := range wrong(len(g)) {
		for k := range 10 {
			for k2 := range 10 {
				for _, list := range [][3]int{{l, k, k2}, {k, l, k2}, {k, k2, l}, {l, l, k}, {l, k, l}, {k, l, l}, {l, l, l}} {
					w := loaded(t, g)
					// The two numbers just beyond the literals may be some by the time that they are asked for: behind a node that was made first.
					if w.ite(list[0], list[1], list[2]) != -1 && !slices.Contains(list[:], 2*len(g)+2) && !slices.Contains(list[:], 2*len(g)+3) {
						t.Errorf("Ite(%v)", list)
					}
				}
			}
		}
	}
}

func TestWrongLiteralsOfAll(t *testing.T) {
	g := []api.Gate{in, in, in, and(2, 4)}
	for _, l := range wrong(len(g)) {
		for at := range 5 {
			list := slices.Insert([]int{2, 4, 3, 1}, at, l)
			w := loaded(t, g)
			if w.all(list...) != -1 {
				t.Errorf("All(%v)", list)
			}
			w.sound()
		}
		w := loaded(t, g)
		if w.all(0, l) != -1 || w.all(l, 0, 0) != -1 || w.all(2, 3, l) != -1 {
			t.Errorf("All of 0 and %d", l)
		}
		// What was made ahead of it stays.
		if w.all(6, 4, l, 2, 6) == -1 && !slices.Equal(w.x.Nodes(), append(slices.Clone(g), and(4, 6))) {
			t.Errorf("its nodes are %v", w.x.Nodes())
		}
	}
}

func TestNotGiven(t *testing.T) {
	x := New()
	x.In()
	x.In()
	x.And(2, 4)
	y, _ := Load(x.Nodes())
	copied, copied2 := *x, *y
	for name, z := range map[string]*Aig{"nil": nil, "a zero value": {}, "a copy": &copied, "a copy of a loaded one": &copied2} {
		if l := z.In(); l != -1 {
			t.Errorf("of %s: In() = %d", name, l)
		}
		for _, a := range append(wrong(3), 0, 1, 2, 3, 6, 7) {
			for _, b := range append(wrong(3), 0, 1, 2, 3, 6, 7) {
				if z.And(a, b) != -1 || z.Or(a, b) != -1 || z.Xor(a, b) != -1 || z.All([]int{a, b}) != -1 {
					t.Errorf("of %s: of %d and %d", name, a, b)
				}
				if z.Ite(a, b, 2) != -1 || z.Ite(b, 0, a) != -1 {
					t.Errorf("of %s: Ite of %d and %d", name, a, b)
				}
			}
			if z.Is(a) || z.All([]int{a}) != -1 {
				t.Errorf("of %s: of %d", name, a)
			}
		}
		if z.All(nil) != -1 || z.All([]int{}) != -1 {
			t.Errorf("of %s: All of none", name)
		}
		if z.Nodes() != nil || z.Len() != 0 {
			t.Errorf("of %s: %d nodes, %v", name, z.Len(), z.Nodes())
		}
	}
	if x.Len() != 3 || y.Len() != 3 || x.And(2, 4) != 6 || y.And(2, 4) != 6 {
		t.Error("what a copy was asked turned the graph")
	}
}

// refused fails unless all calls refuse nodes.
func refused(t *testing.T, g []api.Gate) {
	t.Helper()
	shown := g[:min(len(g), 8)]
	if e := Check(g); e != api.ErrArg {
		t.Errorf("of %v: Check tells %d", shown, e)
	}
	if x, e := Load(g); x != nil || e != api.ErrArg {
		t.Errorf("of %v: Load tells %v, %d", shown, x, e)
	}
	if v := Eval(g, []bool{true, true, true}); v != nil {
		t.Errorf("of %v: Eval tells %v", shown, v)
	}
}

func TestNodesThatMayNotBe(t *testing.T) {
	for _, g := range [][]api.Gate{
		{and(2, 2)},
		{and(0, 2)},
		{and(3, 0)},
		{and(1, 3)},
		{in, in, and(2, 6)},
		{in, in, and(7, 2)},
		{in, in, and(6, 7)},
		{in, in, and(2, 8)},
		{in, in, and(9, 4)},
		{in, in, and(2, 8), in},
		{in, in, and(8, 2), and(2, 4)},
		{and(2, 4), in, in},
		{in, in, and(2, -1)},
		{in, in, and(-1, 2)},
		{in, in, and(0, -1)},
		{in, in, and(-1, 1)},
		{and(-1, 0)},
		{and(-1, -2)},
		{and(-2, -1)},
		{and(-2, -2)},
		{and(-3, 0)},
		{in, in, and(2, -2)},
		{in, in, and(-2, 2)},
		{in, in, and(-6, 4)},
		{in, in, and(math.MinInt, 2)},
		{in, in, and(2, math.MinInt)},
		{in, in, and(math.MaxInt, 2)},
		{in, in, and(2, math.MaxInt)},
		{in, in, and(math.MinInt, math.MaxInt)},
		{in, in, and(math.MinInt, math.MinInt)},
		{in, in, and(math.MaxInt, -1)},
		{in, in, and(1<<32+2, 4)},
		{in, in, and(2, 4), and(6, 8)},
		{in, in, and(2, 4), and(2, 7), and(-1, 7)},
	} {
		refused(t, g)
	}
}

func TestNodesThatNoMakingGives(t *testing.T) {
	for _, g := range [][]api.Gate{
		{in, in, and(4, 2)},
		{in, in, and(2, 4), and(2, 4)},
		{in, in, and(2, 4), and(4, 2)},
		{in, in, and(4, 2), and(2, 4), and(2, 4), and(6, 8), and(8, 6)},
		{in, and(2, 2)},
		{in, and(2, 3)},
		{in, and(3, 2)},
		{in, and(3, 3)},
		{and(0, 0)},
		{and(0, 1)},
		{and(1, 0)},
		{and(1, 1), and(2, 3), and(2, 2)},
		{in, and(0, 2), and(1, 2), and(2, 1)},
		{in, in, and(2, 4), and(2, 6), and(2, 7), and(3, 7), and(3, 6)},
	} {
		if e := Check(g); e != api.OK {
			t.Errorf("of %v: Check tells %d", g, e)
		}
		w := loaded(t, g)
		w.sound()
		w.evals()
		w.allPairs()
		// They are as they were loaded, whatever was asked.
		if !slices.Equal(w.x.Nodes()[:len(g)], g) {
			t.Errorf("of %v: %v", g, w.x.Nodes())
		}
	}
}

// allPairs asks for the "and" of each two literals that there are, wrong ones among them.
func (w *twin) allPairs() {
	w.t.Helper()
	n := 2*len(w.p.nodes) + 2
	for a := -2; a < n; a++ {
		for b := -2; b < n; b++ {
			if l := w.and(a, b); l >= 0 {
				w.means(l, w.table(a)&w.table(b))
			}
		}
	}
	w.sound()
}

func TestCheckOfAllShortLists(t *testing.T) {
	var nodes []api.Gate
	for a := -3; a <= 7; a++ {
		for b := -3; b <= 7; b++ {
			nodes = append(nodes, and(a, b))
		}
	}
	var lists [][]api.Gate
	for _, g := range nodes {
		lists = append(lists, []api.Gate{g})
		for _, g2 := range nodes {
			lists = append(lists, []api.Gate{g, g2}, []api.Gate{in, g, g2}, []api.Gate{g, in, g2})
		}
	}
	kept := 0
	for _, g := range lists {
		if !plainMayBe(g) {
			refused(t, g)
			continue
		}
		kept++
		if e := Check(g); e != api.OK {
			t.Errorf("of %v: Check tells %d", g, e)
		}
		w := loaded(t, g)
		w.sound()
		w.evals()
	}
	if kept < 500 {
		t.Errorf("%d lists are nodes", kept)
	}
}

// behind calls with all lists of nodes that may stand behind a list, so many.
func behind(g []api.Gate, more int, call func(g []api.Gate)) {
	if more == 0 {
		call(g)
		return
	}
	g = slices.Clip(g)
	behind(append(g, in), more-1, call)
	for a := range 2*len(g) + 2 {
		for b := range 2*len(g) + 2 {
			behind(append(g, and(a, b)), more-1, call)
		}
	}
}

func TestAndOfAllShortLists(t *testing.T) {
	count := 0
	for _, k := range []struct {
		ahead []api.Gate
		more  int
	}{{nil, 0}, {nil, 1}, {nil, 2}, {[]api.Gate{in}, 2}, {[]api.Gate{in, in}, 2}} {
		behind(k.ahead, k.more, func(g []api.Gate) {
			count++
			// Each for itself: the one must not be found by what the other one made.
			for a := range 2*len(g) + 2 {
				for b := range 2*len(g) + 2 {
					w := loaded(t, g)
					l := w.and(a, b)
					w.means(l, w.table(a)&w.table(b))
				}
			}
		})
	}
	if count < 2000 {
		t.Errorf("%d lists", count)
	}
}

func TestAllShortRowsOfCalls(t *testing.T) {
	count := 0
	var from func(g []api.Gate, more int)
	from = func(g []api.Gate, more int) {
		count++
		for a := range 2*len(g) + 2 {
			for b := range a + 1 {
				w := loaded(t, g)
				l := w.and(a, b)
				w.means(l, w.table(a)&w.table(b))
				now := w.x.Nodes()
				if twice(now) {
					t.Fatalf("two nodes of the same two literals: %v", now)
				}
				if l2 := w.and(b, a); l2 != l || w.x.Len() != len(now) {
					t.Fatalf("of %v: And(%d, %d) = %d, not %d", now, b, a, l2, l)
				}
				if len(now) > len(g) && more > 0 {
					from(now, more-1)
				}
			}
		}
	}
	from([]api.Gate{in, in}, 4)
	from([]api.Gate{in, in, in}, 3)
	if count < 5000 {
		t.Errorf("%d graphs", count)
	}
}

// picked is a literal of a twin, most often of one of its last nodes; seldom it is none.
func (w *twin) picked(r *numbers) int {
	n := 2*len(w.p.nodes) + 2
	switch k := r.pick(60); {
	case k == 0:
		return -1 - r.pick(3)
	case k == 1:
		return n + r.pick(3)
	case k < 6:
		return r.pick(2)
	case k < 30:
		return r.pick(n)
	}
	return n - 1 - r.pick(min(n, 12))
}

// wander asks this and that of a twin, so often, and holds the values of what is told against what they must be.
func (w *twin) wander(r *numbers, calls int) {
	w.t.Helper()
	inputs := 0
	for range calls {
		a, b, c := w.picked(r), w.picked(r), w.picked(r)
		switch k := r.pick(20); {
		case inputs < 2 || k == 0 && inputs < tableIns:
			w.in()
			inputs++
		case k < 9:
			if l := w.and(a, b); l >= 0 {
				w.means(l, w.table(a)&w.table(b))
			}
		case k < 12:
			if l := w.or(a, b); l >= 0 {
				w.means(l, w.table(a)|w.table(b))
			}
		case k < 14:
			if l := w.xor(a, b); l >= 0 {
				w.means(l, w.table(a)^w.table(b))
			}
		case k < 17:
			if l := w.ite(c, a, b); l >= 0 {
				w.means(l, w.table(c)&w.table(a)|^w.table(c)&w.table(b))
			}
		default:
			list := make([]int, r.pick(6))
			for i := range list {
				list[i] = w.picked(r)
			}
			if l := w.all(list...); l >= 0 {
				want := ^uint64(0)
				for _, k := range list {
					want &= w.table(k)
				}
				w.means(l, want)
			}
		}
	}
	w.sound()
	w.evals()
}

func TestManyGraphs(t *testing.T) {
	for seed := range 400 {
		r := numbers(seed)
		w := made(t)
		w.wander(&r, 20+seed%60)
		// What was made is loaded as it is, and goes on as if it had not been.
		g := w.x.Nodes()
		v := loaded(t, g)
		v.sound()
		for a := range 2*len(g) + 2 {
			b := r.pick(2*len(g) + 2)
			if l, l2 := w.x.And(a, b), v.x.And(a, b); l != l2 {
				t.Fatalf("of %v: And(%d, %d) = %d, of the loaded one %d", g, a, b, l, l2)
			}
		}
		if !slices.Equal(w.x.Nodes(), v.x.Nodes()) {
			t.Fatalf("%v, of the loaded one %v", w.x.Nodes(), v.x.Nodes())
		}
	}
}

func TestManyLoadedGraphs(t *testing.T) {
	for seed := range 400 {
		r := numbers(seed)
		g := []api.Gate{in, in}
		inputs := len(g)
		for range r.pick(12) {
			if inputs < tableIns && r.pick(4) == 0 {
				g = append(g, in)
				inputs++
				continue
			}
			g = append(g, and(r.pick(2*len(g)+2), r.pick(2*len(g)+2)))
		}
		w := loaded(t, g)
		w.evals()
		for range 100 {
			a, b := w.picked(&r), w.picked(&r)
			if l := w.and(a, b); l >= 0 {
				w.means(l, w.table(a)&w.table(b))
			}
		}
		w.sound()
		w.evals()
	}
}

func TestNodesThatLieInOneAnother(t *testing.T) {
	g := []api.Gate{in, in}
	for len(g) < theGates-2 {
		g = append(g, and(2, 2*len(g)))
	}
	x, e := Load(g)
	if e != api.OK {
		t.Fatalf("Load tells %d", e)
	}
	// Rule 3 goes on and on, till it comes to the second input.
	if l := x.And(2*len(g)+1, 2); l != 2*len(g)+2 || x.Nodes()[len(g)] != and(2, 5) {
		t.Errorf("And(%d, 2) = %d", 2*len(g)+1, l)
	}
	if l := x.And(2, 2*len(g)+1); l != 2*len(g)+2 || x.Len() != len(g)+1 {
		t.Errorf("And(2, %d) = %d, of %d nodes", 2*len(g)+1, l, x.Len())
	}
	v := Eval(x.Nodes(), []bool{true, false})
	if Value(v, 2*len(g)) || !Value(v, 2*len(g)+2) {
		t.Error("the values by true, false")
	}
	v = Eval(x.Nodes(), []bool{true, true})
	if !Value(v, 2*len(g)) || Value(v, 2*len(g)+2) {
		t.Error("the values by true, true")
	}
}

func TestMoreThanMaxGatesNodes(t *testing.T) {
	g := slices.Repeat([]api.Gate{in}, theGates+2)
	refused(t, g)
	refused(t, g[:theGates+1])
	if e := Check(g[:theGates]); e != api.OK {
		t.Errorf("Check tells %d of MaxGates nodes", e)
	}
	g[theGates-1] = and(2, 2*theGates-1)
	if x, e := Load(g[:theGates]); e != api.OK || x.Len() != theGates || x.And(2, 2*theGates-1) != 2*theGates {
		t.Errorf("Load tells %d of MaxGates nodes", e)
	}
	if v := Eval(g[:theGates], slices.Repeat([]bool{true}, theGates)); len(v) != theGates || !v[theGates-2] || v[theGates-1] {
		t.Errorf("Eval tells %d values of MaxGates nodes", len(v))
	}
	g[theGates-1] = and(2, 2*theGates)
	refused(t, g[:theGates])
}

// almost is nodes that have room for so many more: three inputs, the "and" of the first two, and inputs.
func almost(room int) []api.Gate {
	g := []api.Gate{in, in, in, and(2, 4)}
	return append(g, slices.Repeat([]api.Gate{in}, theGates-len(g)-room)...)
}

func TestFullGraph(t *testing.T) {
	w := loaded(t, almost(0))
	last := 2*theGates + 1
	if w.x.Len() != theGates || !w.x.Is(last) || w.x.Is(last+1) {
		t.Errorf("it has %d nodes", w.x.Len())
	}
	for range 2 {
		if w.in() != -1 || w.and(2, 6) != -1 || w.and(last, 2) != -1 || w.or(2, 4) != -1 || w.xor(2, 4) != -1 || w.ite(2, 4, 6) != -1 || w.all(2, 4, 6) != -1 {
			t.Error("something has room")
		}
	}
	for _, k := range [][3]int{{2, 4, 8}, {4, 2, 8}, {0, last, 0}, {1, last, last}, {last, last, last}, {last, last - 1, 0}, {2, 8, 8}, {3, 8, 0}, {5, 9, 5}, {2, 9, -1}, {4, 9, -1}} {
		if l := w.and(k[0], k[1]); l != k[2] {
			t.Errorf("And(%d, %d) = %d, not %d", k[0], k[1], l, k[2])
		}
	}
	for _, k := range [][3]int{{3, 5, 9}, {0, 2, 2}, {1, last, 1}, {2, 3, 1}} {
		if l := w.or(k[0], k[1]); l != k[2] {
			t.Errorf("Or(%d, %d) = %d, not %d", k[0], k[1], l, k[2])
		}
	}
	if w.xor(2, 2) != 0 || w.xor(0, last) != last || w.xor(1, last) != last-1 || w.xor(2, 3) != 1 {
		t.Error("Xor of what needs no room")
	}
	if w.ite(1, 6, 2) != 6 || w.ite(0, 6, 2) != 2 || w.ite(2, 4, 0) != 8 || w.ite(3, 0, 4) != 8 || w.ite(6, 1, 0) != 6 {
		t.Error("Ite of what needs no room")
	}
	if w.all() != 1 || w.all(last) != last || w.all(2, 4, 2, 8) != 8 || w.all(2, 4, 3) != 0 {
		t.Error("All of what needs no room")
	}
	if w.x.Len() != theGates || !slices.Equal(w.x.Nodes(), w.p.nodes) {
		t.Error("its nodes are others")
	}
}

func TestLittleRoom(t *testing.T) {
	for _, k := range []struct {
		name string
		room int
		call func(w *twin) int
		want int
		more []api.Gate
	}{
		{"And, 1", 1, func(w *twin) int { return w.and(2, 6) }, 2 * theGates, []api.Gate{and(2, 6)}},
		{"And by rule 3, 1", 1, func(w *twin) int { return w.and(2, 9) }, 2 * theGates, []api.Gate{and(2, 5)}},
		{"Or, 1", 1, func(w *twin) int { return w.or(2, 6) }, 2*theGates + 1, []api.Gate{and(3, 7)}},
		{"Xor, 0", 0, func(w *twin) int { return w.xor(2, 6) }, -1, nil},
		{"Xor, 1: the first is made", 1, func(w *twin) int { return w.xor(2, 6) }, -1, []api.Gate{and(2, 7)}},
		{"Xor, 2: both are", 2, func(w *twin) int { return w.xor(2, 6) }, -1, []api.Gate{and(2, 7), and(3, 6)}},
		{"Xor, 3: all is", 3, func(w *twin) int { return w.xor(2, 6) }, 2*theGates + 1, []api.Gate{and(2, 7), and(3, 6), and(2*theGates-3, 2*theGates-1)}},
		{"Xor, 0, the first is there", 0, func(w *twin) int { return w.xor(2, 5) }, -1, nil},
		{"Xor, 1, the first is there", 1, func(w *twin) int { return w.xor(2, 5) }, -1, []api.Gate{and(3, 5)}},
		{"Xor, 2, the first is there", 2, func(w *twin) int { return w.xor(2, 5) }, 2*theGates + 1, []api.Gate{and(3, 5), and(9, 2*theGates-1)}},
		{"Xor, 1, the second is there", 1, func(w *twin) int { return w.xor(3, 4) }, -1, []api.Gate{and(3, 5)}},
		{"Ite, 0", 0, func(w *twin) int { return w.ite(6, 2, 4) }, -1, nil},
		{"Ite, 1: the first is made", 1, func(w *twin) int { return w.ite(6, 2, 4) }, -1, []api.Gate{and(2, 6)}},
		{"Ite, 2: both are", 2, func(w *twin) int { return w.ite(6, 2, 4) }, -1, []api.Gate{and(2, 6), and(4, 7)}},
		{"Ite, 3: all is", 3, func(w *twin) int { return w.ite(6, 2, 4) }, 2*theGates + 1, []api.Gate{and(2, 6), and(4, 7), and(2*theGates-3, 2*theGates-1)}},
		{"Ite, 1, the first is there", 1, func(w *twin) int { return w.ite(2, 4, 6) }, -1, []api.Gate{and(3, 6)}},
		{"Ite, 0, the second is there", 0, func(w *twin) int { return w.ite(3, 6, 4) }, -1, nil},
		{"All, 1: the first two are made", 1, func(w *twin) int { return w.all(2, 6, 5) }, -1, []api.Gate{and(2, 6)}},
		{"All, 2: all is", 2, func(w *twin) int { return w.all(2, 6, 5) }, 2 * theGates, []api.Gate{and(2, 6), and(5, 2*theGates-2)}},
		{"All, 0, the first two are there", 0, func(w *twin) int { return w.all(2, 4, 6) }, -1, nil},
	} {
		g := almost(k.room)
		w := loaded(t, g)
		if l := k.call(w); l != k.want {
			t.Errorf("%s: %d, not %d", k.name, l, k.want)
		}
		if now := w.x.Nodes(); !slices.Equal(now[len(g):], k.more) || !slices.Equal(now[:len(g)], g) {
			t.Errorf("%s: behind it stand %v", k.name, now[len(g):])
		}
		if l := k.call(w); l != k.want {
			t.Errorf("%s, once more: %d, not %d", k.name, l, k.want)
		}
	}
}

func TestRoomForOneInput(t *testing.T) {
	w := loaded(t, almost(1))
	if l := w.in(); l != 2*theGates || !w.x.Is(l) {
		t.Errorf("the last input is %d", l)
	}
	if w.in() != -1 || w.and(2, 2*theGates) != -1 || w.and(2, 4) != 8 {
		t.Error("something else has room")
	}
}

// each calls with each two unlike ones of so many inputs, a and b, till it has called so often.
func each(inputs, times int, call func(i, a, b int)) {
	i := 0
	for b := 4; b <= 2*inputs; b += 2 {
		for a := 2; a < b; a += 2 {
			if i == times {
				return
			}
			call(i, a, b)
			i++
		}
	}
}

func TestFullGraphThatWasMade(t *testing.T) {
	x := New()
	const inputs = 1500
	for range inputs {
		x.In()
	}
	each(inputs, theGates-inputs, func(i, a, b int) {
		if l := x.And(b, a); l != 2*(inputs+i+1) {
			t.Fatalf("And(%d, %d) = %d", b, a, l)
		}
	})
	if x.Len() != theGates || x.In() != -1 || x.And(3, 5) != -1 || x.Or(2, 4) != -1 || x.Xor(2, 4) != -1 {
		t.Errorf("it has %d nodes, and room", x.Len())
	}
	each(inputs, theGates-inputs, func(i, a, b int) {
		if l := x.And(a, b); l != 2*(inputs+i+1) {
			t.Fatalf("And(%d, %d) = %d, once more", a, b, l)
		}
	})
	if x.Len() != theGates {
		t.Errorf("it has %d nodes", x.Len())
	}
}

func TestEval(t *testing.T) {
	g := []api.Gate{in, and(1, 2), in, and(3, 6), and(8, 5), in, and(12, 9), and(0, 1), and(1, 1)}
	for _, k := range []struct {
		ins  []bool
		want []bool
	}{
		{nil, []bool{false, false, false, false, false, false, false, false, true}},
		{[]bool{}, []bool{false, false, false, false, false, false, false, false, true}},
		{[]bool{true}, []bool{true, true, false, false, false, false, false, false, true}},
		{[]bool{false, true}, []bool{false, false, true, true, true, false, false, false, true}},
		{[]bool{false, false, true}, []bool{false, false, false, false, false, true, true, false, true}},
		{[]bool{false, true, true}, []bool{false, false, true, true, true, true, false, false, true}},
		{[]bool{true, true, true}, []bool{true, true, true, false, false, true, true, false, true}},
		{[]bool{true, true, true, false}, []bool{true, true, true, false, false, true, true, false, true}},
		{[]bool{false, false, true, true, true, true}, []bool{false, false, false, false, false, true, true, false, true}},
	} {
		handed := slices.Clone(k.ins)
		for range 2 {
			if v := Eval(g, k.ins); !slices.Equal(v, k.want) {
				t.Errorf("by %v: %v, not %v", k.ins, v, k.want)
			}
		}
		if !slices.Equal(k.ins, handed) {
			t.Errorf("by %v: it turned what it was handed", handed)
		}
	}
	for n := range 5 {
		for ins := range 7 {
			v := Eval(slices.Repeat([]api.Gate{in}, n), slices.Repeat([]bool{true}, ins))
			want := append(slices.Repeat([]bool{true}, min(n, ins)), slices.Repeat([]bool{false}, max(n-ins, 0))...)
			if !slices.Equal(v, want) {
				t.Errorf("of %d inputs by %d: %v", n, ins, v)
			}
		}
	}
}

func TestValue(t *testing.T) {
	for _, v := range [][]bool{nil, {}, {true}, {false}, {true, false, true}, {false, true}} {
		handed := slices.Clone(v)
		if Value(v, 0) || !Value(v, 1) {
			t.Errorf("by %v: of the constants", v)
		}
		for i, is := range v {
			if Value(v, 2*i+2) != is || Value(v, 2*i+3) == is {
				t.Errorf("by %v: of the node %d", v, i+1)
			}
		}
		for _, l := range wrong(len(v)) {
			if Value(v, l) {
				t.Errorf("by %v: of %d, which is no literal", v, l)
			}
		}
		if !slices.Equal(v, handed) {
			t.Errorf("by %v: it turned what it was handed", handed)
		}
	}
}

func TestNoCallTurnsWhatWasHandedIn(t *testing.T) {
	g := []api.Gate{in, in, and(4, 2), and(2, 4), and(5, 3), in, and(10, 6)}
	// With room behind it: what is added must not stand there.
	g = append(make([]api.Gate, 0, 100), g...)
	handed := slices.Clone(g[:cap(g)])
	x, e := Load(g)
	if e != api.OK {
		t.Fatalf("Load tells %d", e)
	}
	Check(g)
	Eval(g, []bool{true})
	x.In()
	x.And(3, 4)
	x.Xor(2, 12)
	x.All([]int{2, 5, 12})
	if !slices.Equal(g[:cap(g)], handed) {
		t.Error("a call turned what Load was handed")
	}
	// Nothing was asked of y yet: what it has is what it was given.
	y, _ := Load(g)
	now, given := x.Nodes(), slices.Clone(g)
	for i := range g {
		g[i] = and(0, 0)
	}
	if !slices.Equal(x.Nodes(), now) || x.And(2, 4) != 6 || !slices.Equal(y.Nodes(), given) || y.And(2, 4) != 6 {
		t.Error("the graph is turned with what Load was handed")
	}
	l := append(make([]int, 0, 10), 2, 4, 3, 12)
	x.All(l)
	if !slices.Equal(l[:cap(l)], []int{2, 4, 3, 12, 0, 0, 0, 0, 0, 0}) {
		t.Error("All turned what it was handed")
	}
}

func TestNoListThatWasToldTurns(t *testing.T) {
	x := New()
	x.In()
	x.In()
	x.And(2, 4)
	told := x.Nodes()
	kept := slices.Clone(told)
	x.And(3, 4)
	x.In()
	if !slices.Equal(told, kept) || !slices.Equal(told[:cap(told)][:len(kept)], kept) {
		t.Error("a call turned what Nodes told")
	}
	later := x.Nodes()
	kept = slices.Clone(later)
	for i := range later {
		later[i] = and(0, 0)
	}
	_ = append(later, and(0, 0))
	if !slices.Equal(x.Nodes(), kept) || x.And(2, 4) != 6 {
		t.Error("the graph is turned with what Nodes told")
	}
	ins := []bool{true, true, true}
	v, v2 := Eval(kept, ins), Eval(kept, ins)
	v[0], ins[1] = false, false
	if !v2[0] || !v2[1] || !v[1] {
		t.Error("what Eval told is turned")
	}
}

func TestTwoGraphs(t *testing.T) {
	x, y := New(), New()
	x.In()
	x.In()
	if y.Len() != 0 || y.And(2, 4) != -1 {
		t.Error("one graph has the other one's nodes")
	}
	z, _ := Load(x.Nodes())
	if x.And(2, 4) != 6 || z.Len() != 2 || z.And(3, 5) != 6 || x.And(3, 5) != 8 || z.And(2, 4) != 8 {
		t.Error("one graph has the nodes of the one that it was loaded from")
	}
}
