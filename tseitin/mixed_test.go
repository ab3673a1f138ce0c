package tseitin

import (
	"math"
	"slices"
	"testing"

	"fathom/aig"
	"fathom/api"
	"fathom/cdcl"
	"fathom/lit"
)

// numbers is a row of numbers that are as if picked.
type numbers uint64

// pick is the next one, below n.
func (r *numbers) pick(n int) int {
	*r = *r*6364136223846793005 + 1442695040888963407
	return int(*r>>33) % n
}

// wrong is numbers that are no literals of a graph of so many nodes.
func wrong(nodes int) []int {
	past := 2*nodes + 2
	return []int{math.MinInt, math.MinInt + 1, math.MinInt32, -past, -3, -2, -1, past, past + 1, past + 2, 1 << 32, 1<<32 + 1, math.MaxInt - 1, math.MaxInt}
}

// wrongNodes is nodes that may not be, at a place of a list.
func wrongNodes(at int) []api.Gate {
	own := 2*at + 2
	list := []api.Gate{and(-1, 0), and(0, -1), and(-2, -2), and(-1, -2), and(-2, -1), and(math.MinInt, math.MinInt), and(math.MaxInt, math.MaxInt)}
	for _, l := range append(wrong(at), own, own+1) {
		list = append(list, and(l, 0), and(1, l))
	}
	return slices.DeleteFunc(list, func(node api.Gate) bool { return node == in })
}

// inputs is how many inputs there are.
func inputs(g []api.Gate) int {
	n := 0
	for _, node := range g {
		if plainInput(node) {
			n++
		}
	}
	return n
}

// way is of so many things which are true, in one of the ways in which they may be.
func way(of, n int) []bool {
	list := make([]bool, n)
	for i := range list {
		list[i] = of>>i&1 == 1
	}
	return list
}

// models is all models of so many variables, each of them true, false or open.
func models(n int) [][]int {
	list := [][]int{{}}
	for range n {
		var more [][]int
		for _, m := range list {
			for _, value := range []int{-1, 0, 1} {
				more = append(more, append(slices.Clone(m), value))
			}
		}
		list = more
	}
	return list
}

// tried holds, of what was built, all models, with and without what is open, and all inputs, against one another.
func tried(t *testing.T, g []api.Gate, clauses [][]int, c api.Coded, all [][]int) {
	t.Helper()
	someModel := false
	for _, m := range all {
		ins := Ins(g, c, m)
		if want := plainIns(g, c.Vars, m); !slices.Equal(ins, want) {
			t.Fatalf("Ins of %v, %v, by %v: %v, not %v", g, clauses, m, ins, want)
		}
		asked := Asked(g, clauses, ins)
		if asked != plainAsked(g, clauses, ins) {
			t.Fatalf("Asked of %v, %v, by %v: %v", g, clauses, ins, asked)
		}
		holds := plainHolds(c.Cnf, m)
		someModel = someModel || holds
		switch {
		case holds && !asked:
			t.Fatalf("of %v, %v: by %v the formula holds, and its inputs do not make it so", g, clauses, m)
		case !slices.Contains(m, 0) && holds != (asked && plainAs(g, c.Vars, m, ins)):
			t.Fatalf("of %v, %v: by %v: %v", g, clauses, m, holds)
		}
	}
	if some := someInputs(t, g, clauses, c); some != someModel {
		t.Fatalf("of %v, %v: some model %v, some inputs %v", g, clauses, someModel, some)
	}
}

// someInputs tells whether some inputs make what is asked so, and holds all of them against their models.
func someInputs(t *testing.T, g []api.Gate, clauses [][]int, c api.Coded) bool {
	t.Helper()
	some := false
	n := inputs(g)
	for of := range 1 << n {
		ins := way(of, n)
		asked := Asked(g, clauses, ins)
		some = some || asked
		m := plainModel(g, c, ins)
		if asked != plainAsked(g, clauses, ins) || asked != lit.Holds(c.Cnf, m) {
			t.Fatalf("of %v, %v, by %v: %v, and its model %v", g, clauses, ins, asked, m)
		}
	}
	return some
}

// coded holds what Code tells of all literals, and of a few numbers that are none, against the variables.
func coded(t *testing.T, c api.Coded) {
	t.Helper()
	for l := -2; l < 2*len(c.Vars)+4; l++ {
		if got, want := Code(c, l), plainCode(c.Vars, l); got != want {
			t.Fatalf("Code of %v, %d: %d, not %d", c.Vars, l, got, want)
		}
	}
}

// allGraphs is all graphs of just so many nodes.
func allGraphs(n int) [][]api.Gate {
	graphs := [][]api.Gate{{}}
	for at := range n {
		var more [][]api.Gate
		for _, g := range graphs {
			more = append(more, append(slices.Clone(g), in))
			for a := range 2*at + 2 {
				for b := range 2*at + 2 {
					more = append(more, append(slices.Clone(g), and(a, b)))
				}
			}
		}
		graphs = more
	}
	return graphs
}

// allClauses is all clauses of literals of so many nodes, of so many of them at most.
func allClauses(nodes, wide int) [][]int {
	list := [][]int{{}}
	for at := 0; at < len(list); at++ {
		if len(list[at]) < wide {
			for l := range 2*nodes + 2 {
				list = append(list, append(slices.Clone(list[at]), l))
			}
		}
	}
	return list
}

// TestAllSmall: all small graphs, with no clause, with each short one, and with two short ones.
func TestAllSmall(t *testing.T) {
	for n := range 4 {
		graphs := allGraphs(n)
		if want := []int{1, 5, 5 * 17, 5 * 17 * 37}[n]; len(graphs) != want {
			t.Fatalf("%d graphs of %d nodes, not %d", len(graphs), n, want)
		}
		wide := []int{3, 3, 3, 2}[n]
		list := allClauses(n, wide)
		all := make([][][]int, n+1)
		for vars := range all {
			all[vars] = models(vars)
		}
		r := numbers(n)
		for _, g := range graphs {
			ask := func(clauses ...[]int) {
				c := built(t, g, clauses)
				tried(t, g, clauses, c, all[c.Cnf.Vars])
				coded(t, c)
			}
			ask()
			for _, first := range list {
				ask(first)
				ask(first, list[r.pick(len(list))])
			}
		}
	}
}

// TestAllPairs: all pairs of short clauses, of all graphs of two nodes.
func TestAllPairs(t *testing.T) {
	list := allClauses(2, 2)
	all := [][][]int{models(0), models(1), models(2)}
	for _, g := range allGraphs(2) {
		for _, first := range list {
			for _, second := range list {
				clauses := lists(first, second)
				c := built(t, g, clauses)
				tried(t, g, clauses, c, all[c.Cnf.Vars])
			}
		}
	}
}

// mixedGraph is a graph of so many nodes, as if picked: of inputs, and "and"s of any literals of lesser nodes, also such as no making gives.
func mixedGraph(r *numbers, n, most int) []api.Gate {
	var g []api.Gate
	ins := 0
	for at := range n {
		if ins < most && r.pick(3) == 0 {
			g = append(g, in)
			ins++
			continue
		}
		low := 0
		if r.pick(3) > 0 {
			// Of nodes that are near, so that much lies in one another.
			low = max(0, 2*at+2-12)
		}
		g = append(g, and(low+r.pick(2*at+2-low), low+r.pick(2*at+2-low)))
	}
	return g
}

// mixedClauses is clauses, as if picked, of literals of so many nodes.
func mixedClauses(r *numbers, nodes, most, wide int) [][]int {
	clauses := make([][]int, r.pick(most+1))
	for i := range clauses {
		clauses[i] = make([]int, r.pick(wide+1))
		for j := range clauses[i] {
			l := r.pick(2*nodes + 2)
			if l == 1 && r.pick(4) > 0 {
				// Else too many would be left out, where nodes are few.
				l = 0
			}
			clauses[i][j] = l
		}
	}
	return clauses
}

// TestMixedFew: many graphs of few nodes, by all models.
func TestMixedFew(t *testing.T) {
	r := numbers(5)
	all := make([][][]int, 8)
	for vars := range all {
		all[vars] = models(vars)
	}
	for range 1500 {
		g := mixedGraph(&r, 4+r.pick(4), 4)
		clauses := mixedClauses(&r, len(g), 5, 4)
		c := built(t, g, clauses)
		tried(t, g, clauses, c, all[c.Cnf.Vars])
		coded(t, c)
	}
}

// TestMixed: many greater graphs, by all inputs, and by what a search tells.
func TestMixed(t *testing.T) {
	r := numbers(11)
	told := map[int]int{}
	for range 1500 {
		g := mixedGraph(&r, 5+r.pick(60), 8)
		clauses := mixedClauses(&r, len(g), 12, 6)
		told[searched(t, g, clauses)]++
	}
	if told[api.Sat] < 100 || told[api.Unsat] < 100 {
		t.Errorf("so many of each verdict: %v", told)
	}
}

// searched is the verdict of a search, held against all inputs.
func searched(t *testing.T, g []api.Gate, clauses [][]int) int {
	t.Helper()
	c := built(t, g, clauses)
	coded(t, c)
	if e := lit.CheckCnf(c.Cnf); e != api.OK {
		t.Fatalf("of %v, %v: CheckCnf: %d", g, clauses, e)
	}
	x, e := cdcl.Solve(c.Cnf, cdcl.Usual())
	if e != api.OK {
		t.Fatalf("of %v, %v: Solve: %d", g, clauses, e)
	}
	if some := someInputs(t, g, clauses, c); some != (x.Verdict == api.Sat) {
		t.Fatalf("of %v, %v: the search told %d, and some inputs do: %v", g, clauses, x.Verdict, some)
	}
	if x.Verdict == api.Sat {
		ins := Ins(g, c, x.Model)
		if !Asked(g, clauses, ins) || !plainAs(g, c.Vars, x.Model, ins) {
			t.Fatalf("of %v, %v: the search told %v", g, clauses, x.Model)
		}
	}
	return x.Verdict
}

// TestMade: graphs that were made by their calls.
func TestMade(t *testing.T) {
	r := numbers(29)
	for range 300 {
		x := aig.New()
		pool := []int{0, 1}
		for range 1 + r.pick(8) {
			pool = append(pool, x.In())
		}
		some := func() int { return pool[r.pick(len(pool))] ^ r.pick(2) }
		for range r.pick(40) {
			made := []int{x.And(some(), some()), x.Or(some(), some()), x.Xor(some(), some()), x.Ite(some(), some(), some())}
			pool = append(pool, made[r.pick(len(made))])
		}
		clauses := make([][]int, 1+r.pick(6))
		for i := range clauses {
			for range r.pick(4) {
				clauses[i] = append(clauses[i], some())
			}
		}
		searched(t, x.Nodes(), clauses)
	}
}

// TestChain: a graph in which all nodes lie in one another, the last one asked, and one in the middle.
func TestChain(t *testing.T) {
	const n = 3000
	g := gates(in, in)
	for at := 2; at < n; at++ {
		g = append(g, and(2*at, 2*at-1))
	}
	for _, last := range []int{n, n / 2, 3, 2, 1} {
		c, e := Build(g, lists(clause(2*last)))
		want := max(0, last-2)*3 + 1
		vars := last
		if last == 2 {
			vars = 1
		}
		if e != api.OK || c.Cnf.Vars != vars || len(c.Cnf.Clauses) != want {
			t.Errorf("the node %d: %d, %d variables, %d clauses, not %d", last, e, c.Cnf.Vars, len(c.Cnf.Clauses), want)
		}
	}
	built(t, g[:200], lists(clause(400), clause(401, 2)))
}

// TestWide: clauses of as many literals as they may have, and of one more.
func TestWide(t *testing.T) {
	g := gates(in, in, and(2, 5))
	for _, l := range []int{0, 1, 2, 5, 6, 7} {
		for _, wide := range []int{theWide - 1, theWide, theWide + 1, theWide + 2, 2 * theWide, 1 << 16} {
			c := slices.Repeat(clause(l), wide)
			for _, clauses := range [][][]int{{c}, {c, {2}}, {{2}, c}, {{2}, c, {3}}, {c, c}} {
				if wide > theWide {
					refuses(t, g, clauses, api.ErrArg)
					continue
				}
				built(t, g, clauses)
			}
		}
	}
	many := slices.Repeat(gates(in), theWide+1)
	var all []int
	for i := range many {
		all = append(all, 2*i+2+i%2)
	}
	c := built(t, many, lists(all[1:]))
	if c.Cnf.Vars != theWide || len(c.Cnf.Clauses[0]) != theWide {
		t.Errorf("%d variables, %d literals", c.Cnf.Vars, len(c.Cnf.Clauses[0]))
	}
	refuses(t, many, lists(all), api.ErrArg)
	// What is left out counts among its literals.
	refuses(t, many, lists(append(all[1:theWide], 0, 0)), api.ErrArg)
	refuses(t, many, lists(append(all[1:theWide], 1, 1)), api.ErrArg)
}

// counted fails unless just as many clauses are told, or, if these are too many, ErrFull.
func counted(t *testing.T, g []api.Gate, clauses [][]int, want int) {
	t.Helper()
	if want > theClauses {
		refuses(t, g, clauses, api.ErrFull)
		return
	}
	if c, e := Build(g, clauses); e != api.OK || len(c.Cnf.Clauses) != want {
		t.Fatalf("%d nodes, %d clauses: %d, and %d of them, not %d", len(g), len(clauses), e, len(c.Cnf.Clauses), want)
	}
}

// TestFullAsked: as many clauses as a formula may have, and one more, by what is asked.
func TestFullAsked(t *testing.T) {
	for _, n := range []int{theClauses - 1, theClauses, theClauses + 1, theClauses + 2, 2 * theClauses} {
		counted(t, gates(in), slices.Repeat(lists(clause(2)), n), n)
		counted(t, gates(in), slices.Repeat(lists(clause(3, 0, 2)), n), n)
		counted(t, nil, make([][]int, n), n)
		counted(t, nil, slices.Repeat(lists(clause(0)), n), n)
		// What is left out counts for nothing.
		counted(t, gates(in), slices.Repeat(lists(clause(1)), n), 0)
		counted(t, gates(in), slices.Repeat(lists(clause(2), clause(2, 1)), n), n)
		counted(t, gates(in), append(slices.Repeat(lists(clause(1)), n), clause(2)), 1)
	}
}

// TestFullNodes: the clauses of nodes are counted, too: of those that clauses hang on, and as many as they are.
func TestFullNodes(t *testing.T) {
	for _, kind := range []struct {
		node  api.Gate
		count int
	}{
		{and(2, 4), 3}, {and(5, 2), 3}, {and(2, 2), 3}, {and(2, 3), 3}, {and(0, 0), 2}, {and(0, 2), 2}, {and(3, 0), 2}, {and(1, 2), 2}, {and(5, 1), 2}, {and(0, 1), 1}, {and(1, 0), 1}, {and(1, 1), 1},
	} {
		most := theClauses / kind.count
		for _, n := range []int{most - 1, most, most + 1} {
			g := append(gates(in, in), slices.Repeat(gates(kind.node), n)...)
			var all [][]int
			for at := 2; at < len(g); at += theWide {
				var c []int
				for i := at; i < min(at+theWide, len(g)); i++ {
					c = append(c, 2*i+2)
				}
				// So that it is left out itself, and all hang on it.
				c[0] = c[0] + 1
				all = append(all, c)
			}
			own := n * kind.count
			counted(t, g, all, own+len(all))
			for _, more := range []int{-1, 0, 1} {
				rest := theClauses - own - len(all) + more
				if rest >= 0 {
					counted(t, g, append(slices.Clone(all), slices.Repeat(lists(clause(2, 5)), rest)...), theClauses+more)
				}
			}
			// Of nodes that no clause hangs on there are none.
			counted(t, g, slices.Repeat(lists(clause(2, 5)), theClauses), theClauses)
			counted(t, g, lists(clause(4)), 1)
		}
	}
}

// TestFullChain: of nodes that hang on one alone, through others: as many as a formula has room for, and one more.
func TestFullChain(t *testing.T) {
	const most = (theClauses - 1) / 3
	g := gates(in, in)
	for at := 2; at < most+4; at++ {
		g = append(g, and(2*at+1, 2*at-2))
	}
	for n := most - 1; n <= most+2; n++ {
		counted(t, g[:n+2], lists(clause(2*(n+2))), 3*n+1)
		counted(t, g[:n+2], lists(clause(2*(n+2)), clause(3)), 3*n+2)
		counted(t, g, lists(clause(2*(n+2)+1, 1)), 3*n)
		counted(t, g, lists(clause(2*(n+2)+1, 1), nil, clause(0), clause(2)), 3*n+3)
	}
}

// TestManyNodes: as many nodes as a graph has at most, all with a variable; and one more.
func TestManyNodes(t *testing.T) {
	g := slices.Repeat(gates(in), theGates)
	var clauses [][]int
	for at := 0; at < len(g); at += theWide {
		c := make([]int, theWide)
		for i := range c {
			c[i] = 2*(at+i) + 3
		}
		clauses = append(clauses, c)
	}
	c, e := Build(g, clauses)
	if e != api.OK || c.Cnf.Vars != theVars || len(c.Cnf.Clauses) != len(clauses) || len(c.Vars) != len(g) {
		t.Fatalf("%d, %d variables, %d clauses", e, c.Cnf.Vars, len(c.Cnf.Clauses))
	}
	for i := range g {
		if v := c.Vars[i]; v != i+1 || c.Cnf.Clauses[i/theWide][i%theWide] != -v || Code(c, 2*i+2) != v || Code(c, 2*i+3) != -v {
			t.Fatalf("the node %d: the variable %d", i+1, v)
		}
	}
	m := make([]int, theVars)
	m[0], m[theVars-1] = 1, 1
	ins := Ins(g, c, m)
	if len(ins) != len(g) || !ins[0] || ins[1] || !ins[theVars-1] {
		t.Error("Ins of many")
	}
	if !Asked(g, clauses, ins) || Asked(g, lists(clause(2*theGates+1)), ins) || !Asked(g, lists(clause(2*theGates)), ins) {
		t.Error("Asked of many")
	}
	more := append(g, in)
	refuses(t, more, nil, api.ErrArg)
	if Asked(more, nil, nil) || len(Ins(more, api.Coded{Vars: make([]int, len(more))}, nil)) != 0 {
		t.Error("of too many nodes")
	}
	g[theGates-1] = and(2*theGates-2, 1)
	if c, e := Build(g, lists(clause(2*theGates+1))); e != api.OK || c.Cnf.Vars != 2 || !sameLists(c.Cnf.Clauses, lists(clause(-2, 1), clause(2, -1), clause(-2))) {
		t.Errorf("the last node: %v, %d", c.Cnf, e)
	}
	refuses(t, g, lists(clause(2*theGates+2)), api.ErrArg)
}

// TestWrongNodes: nodes that may not be, at each place: of these nothing is told.
func TestWrongNodes(t *testing.T) {
	right := gates(in, in, and(2, 4), in, and(7, 0), and(10, 9))
	for n := 1; n <= len(right); n++ {
		for at := range n {
			for _, node := range wrongNodes(at) {
				g := slices.Clone(right[:n])
				g[at] = node
				for _, clauses := range [][][]int{nil, {nil}, {{1}}, {{2}}, {{2 * n}}, {{-1}}, {make([]int, theWide+1)}} {
					refuses(t, g, clauses, api.ErrArg)
					if Asked(g, clauses, []bool{true, true, true}) {
						t.Fatalf("Asked of %v, %v", g, clauses)
					}
				}
				for _, vars := range [][]int{nil, make([]int, n), slices.Repeat([]int{1}, n)} {
					if ins := Ins(g, api.Coded{Vars: vars}, clause(1)); len(ins) != 0 {
						t.Fatalf("Ins of %v, %v: %v", g, vars, ins)
					}
				}
			}
		}
	}
}

// TestWrongLiterals: a number that is no literal, at each place of each clause.
func TestWrongLiterals(t *testing.T) {
	for _, g := range [][]api.Gate{nil, gates(in), gates(in, in, and(2, 4)), gates(and(1, 1), in)} {
		right := lists(clause(1), clause(0, 1, 0), clause(), clause(2*len(g)+1, 0))
		for i, c := range right {
			for at := range len(c) + 1 {
				for _, l := range wrong(len(g)) {
					clauses := slices.Clone(right)
					clauses[i] = slices.Insert(slices.Clone(c), at, l)
					refuses(t, g, clauses, api.ErrArg)
					if ins := []bool{true, true}; Asked(g, clauses, ins) != plainAsked(g, clauses, ins) {
						t.Fatalf("Asked of %v, %v", g, clauses)
					}
					if Asked(g, lists(clause(l)), nil) || !Asked(g, lists(clause(l, 1), clause(1, l)), nil) {
						t.Fatalf("Asked of %v, %d", g, l)
					}
				}
			}
		}
		// The greatest one is a literal.
		built(t, g, append(right, clause(2*len(g)+1)))
	}
}

// TestFirstError: where there are too many clauses, too, it is ErrArg.
func TestFirstError(t *testing.T) {
	many := slices.Repeat(lists(clause(2)), theClauses+5)
	refuses(t, gates(in), many, api.ErrFull)
	refuses(t, gates(and(0, -1)), many, api.ErrArg)
	refuses(t, gates(in, and(4, 2)), many, api.ErrArg)
	for _, at := range []int{0, 1, theClauses - 1, theClauses, theClauses + 1, theClauses + 4} {
		for _, c := range [][]int{{-1}, {4}, {2, math.MinInt}, {math.MaxInt, 2}, make([]int, theWide+1), slices.Repeat([]int{1}, theWide+1)} {
			clauses := slices.Clone(many)
			clauses[at] = c
			refuses(t, gates(in), clauses, api.ErrArg)
		}
	}
}

// handed is what is handed in, with more behind each list's end.
type handed struct {
	g       []api.Gate
	clauses [][]int
	model   []int
	ins     []bool
}

// copied is a copy of it, also of what lies behind the ends.
func (h handed) copied() handed {
	k := handed{g: slices.Clone(h.g[:cap(h.g)]), model: slices.Clone(h.model[:cap(h.model)]), ins: slices.Clone(h.ins[:cap(h.ins)])}
	for _, c := range h.clauses[:cap(h.clauses)] {
		k.clauses = append(k.clauses, slices.Clone(c[:cap(c)]))
	}
	return k
}

// like tells whether copies are alike.
func (h handed) like(k handed) bool {
	return slices.Equal(h.g, k.g) && slices.Equal(h.model, k.model) && slices.Equal(h.ins, k.ins) && sameLists(h.clauses, k.clauses)
}

// roomy is a list that has room behind its end, in which something stands.
func roomy[T any](list []T, behind ...T) []T {
	all := slices.Concat(list, behind)
	return slices.Clip(all)[:len(list)]
}

// TestNew: what is handed stays, and what is told is new memory.
func TestNew(t *testing.T) {
	r := numbers(41)
	for range 400 {
		g := mixedGraph(&r, r.pick(12), 4)
		clauses := mixedClauses(&r, len(g), 4, 4)
		for i := range clauses {
			clauses[i] = roomy(clauses[i], 77, -78, 79, 80)
		}
		h := handed{
			g:       roomy(g, and(9, 9), and(-7, 3), in),
			clauses: roomy(clauses, clause(5, 6), clause(7)),
			model:   roomy(clause(1, -1, 1), 4, -4),
			ins:     roomy([]bool{true, false}, true, false),
		}
		kept := h.copied()
		c, e := Build(h.g, h.clauses)
		if e != api.OK {
			t.Fatalf("Build of %v, %v: %d", g, clauses, e)
		}
		vars := slices.Clone(c.Vars)
		ins := Ins(h.g, c, h.model)
		Asked(h.g, h.clauses, h.ins)
		Code(c, 2)
		if !h.copied().like(kept) || !slices.Equal(vars, c.Vars) {
			t.Fatalf("%v was handed, and %v is there", kept, h)
		}
		spoil(t, c, ins)
		if !h.copied().like(kept) {
			t.Fatalf("what is told of %v is what was handed", kept)
		}
		again, _ := Build(h.g, h.clauses)
		spoil(t, c, ins)
		if want, _ := plainBuild(g, clauses); !same(again, want) {
			t.Fatalf("of %v, %v: %v, after what was told is written over", g, clauses, again)
		}
	}
}

// spoil writes over what was told, also beyond its lists' ends, and fails if that turns another list of it.
func spoil(t *testing.T, c api.Coded, ins []bool) {
	t.Helper()
	all := append(slices.Clone(c.Cnf.Clauses), c.Vars)
	for i, list := range all {
		list = list[:cap(list)]
		for at := range list {
			list[at] = -1000 - i
		}
	}
	for i, list := range all {
		for _, l := range list[:cap(list)] {
			if l != -1000-i {
				t.Fatal("two lists share memory")
			}
		}
	}
	for i := range ins {
		ins[i] = !ins[i]
	}
	for i := range c.Cnf.Clauses {
		c.Cnf.Clauses[i] = nil
	}
}

// TestTwice: the same clause handed in at several places: what is told of each is memory of its own.
func TestTwice(t *testing.T) {
	one := clause(2, 5)
	c, e := Build(gates(in, in), lists(one, one, one))
	if e != api.OK || !sameLists(c.Cnf.Clauses, lists(clause(1, -2), clause(1, -2), clause(1, -2))) {
		t.Fatalf("Build: %v, %d", c, e)
	}
	spoil(t, c, nil)
	if !slices.Equal(one, clause(2, 5)) {
		t.Errorf("what was handed is %v", one)
	}
}
