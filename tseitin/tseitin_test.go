package tseitin

import (
	"math"
	"slices"
	"testing"

	"fathom/api"
)

// in is a node that is an input.
var in = api.Gate{A: -1, B: -1}

// and is a node that is the "and" of two literals.
func and(a, b int) api.Gate {
	return api.Gate{A: a, B: b}
}

// gates is nodes.
func gates(g ...api.Gate) []api.Gate {
	return g
}

// lists is clauses.
func lists(l ...[]int) [][]int {
	return l
}

// clause is one of so many literals.
func clause(l ...int) []int {
	return l
}

// sameLists tells whether lists are alike.
func sameLists(a, b [][]int) bool {
	return slices.EqualFunc(a, b, slices.Equal)
}

// same tells whether the same was told.
func same(a, b api.Coded) bool {
	return a.Cnf.Vars == b.Cnf.Vars && slices.Equal(a.Vars, b.Vars) && sameLists(a.Cnf.Clauses, b.Cnf.Clauses)
}

// isZero tells whether nothing was told.
func isZero(c api.Coded) bool {
	return c.Cnf.Vars == 0 && c.Cnf.Clauses == nil && c.Vars == nil
}

// built is what Build tells, if it is what the words say; both times that it is asked.
func built(t *testing.T, g []api.Gate, clauses [][]int) api.Coded {
	t.Helper()
	want, wantErr := plainBuild(g, clauses)
	for range 2 {
		got, e := Build(g, clauses)
		if e != wantErr || !same(got, want) {
			t.Fatalf("Build of %v, %v: %v, %d, not %v, %d", g, clauses, got, e, want, wantErr)
		}
		if e != api.OK && !isZero(got) {
			t.Fatalf("Build of %v, %v: %v beside %d", g, clauses, got, e)
		}
	}
	got, _ := Build(g, clauses)
	return got
}

// refuses fails unless Build tells an error, and nothing beside it.
func refuses(t *testing.T, g []api.Gate, clauses [][]int, want api.Errno) {
	t.Helper()
	if c, e := Build(g, clauses); e != want || !isZero(c) {
		t.Fatalf("Build of %d nodes, %d clauses: %d, and %d variables, %d clauses; not %d", len(g), len(clauses), e, c.Cnf.Vars, len(c.Cnf.Clauses), want)
	}
}

func TestExample(t *testing.T) {
	g := gates(in, in, and(2, 4))
	c, e := Build(g, lists(clause(6)))
	want := lists(clause(-3, 1), clause(-3, 2), clause(3, -1, -2), clause(3))
	if e != api.OK || c.Cnf.Vars != 3 || !sameLists(c.Cnf.Clauses, want) || !slices.Equal(c.Vars, clause(1, 2, 3)) {
		t.Errorf("Build: %v, %d", c, e)
	}
	for way := range 8 {
		m := make([]int, 3)
		for i := range m {
			m[i] = 2*(way>>i&1) - 1
		}
		ins := Ins(g, c, m)
		if want := []bool{m[0] > 0, m[1] > 0}; !slices.Equal(ins, want) {
			t.Errorf("Ins by %v: %v", m, ins)
		}
		if got := Asked(g, lists(clause(6)), ins); got != (m[0] > 0 && m[1] > 0) {
			t.Errorf("Asked by %v: %v", ins, got)
		}
	}
	for l, want := range []int{0, 0, 1, -1, 2, -2, 3, -3, 0, 0} {
		if got := Code(c, l); got != want {
			t.Errorf("Code of %d: %d, not %d", l, got, want)
		}
	}
}

// edge is nodes and clauses, and the formula, written out.
type edge struct {
	name    string
	g       []api.Gate
	asked   [][]int
	vars    []int
	clauses [][]int
}

// clauseEdges is edges of clauses.
func clauseEdges() []edge {
	two := gates(in, in)
	return []edge{
		{"nothing", nil, nil, nil, nil},
		{"no nodes, an empty clause", nil, lists(nil), nil, lists(nil)},
		{"no nodes, 0", nil, lists(clause(0)), nil, lists(nil)},
		{"no nodes, 1", nil, lists(clause(1)), nil, nil},
		{"no nodes, 0 and 1", nil, lists(clause(0, 1), clause(1, 0), clause(0, 0)), nil, lists(nil)},
		{"no clauses", two, nil, clause(0, 0), nil},
		{"an empty clause", two, lists(nil), clause(0, 0), lists(nil)},
		{"an empty clause, of no literals", two, lists(clause()), clause(0, 0), lists(nil)},
		{"0 alone", two, lists(clause(0)), clause(0, 0), lists(nil)},
		{"0 alone, three times", two, lists(clause(0, 0, 0)), clause(0, 0), lists(nil)},
		{"1 alone", two, lists(clause(1)), clause(0, 0), nil},
		{"1 at the beginning", two, lists(clause(1, 2), clause(4)), clause(1, 2), lists(clause(2))},
		{"1 in the middle", two, lists(clause(2, 1, 3), clause(5)), clause(1, 2), lists(clause(-2))},
		{"1 at the end", two, lists(clause(4), clause(2, 1)), clause(1, 2), lists(clause(2))},
		{"1 and 0", two, lists(clause(0, 4, 1)), clause(0, 1), nil},
		{"0 several times", two, lists(clause(0, 2, 0, 0, 5, 0)), clause(1, 2), lists(clause(1, -2))},
		{"a literal twice", two, lists(clause(2, 2), clause(5, 3, 5)), clause(1, 2), lists(clause(1, 1), clause(-2, -1, -2))},
		{"a literal and its negation", two, lists(clause(2, 3), clause(5, 2, 4)), clause(1, 2), lists(clause(1, -1), clause(-2, 1, 2))},
		{"several clauses alike", two, lists(clause(4, 3), clause(4, 3), clause(4, 3)), clause(1, 2), lists(clause(2, -1), clause(2, -1), clause(2, -1))},
		{"the greater one first", two, lists(clause(5, 2), clause(4, 3)), clause(1, 2), lists(clause(-2, 1), clause(2, -1))},
	}
}

// nodeEdges is edges of nodes.
func nodeEdges() []edge {
	return []edge{
		{"no clause hangs on one", gates(in, in, in), lists(clause(2, 7)), clause(1, 0, 2), lists(clause(1, -2))},
		{"nor on an and", gates(in, in, and(2, 4), and(3, 5)), lists(clause(2), clause(9)), clause(1, 2, 0, 3),
			lists(clause(-3, -1), clause(-3, -2), clause(3, 1, 2), clause(1), clause(-3))},
		{"through another one", gates(in, in, in, and(2, 6), and(9, 6)), lists(clause(10)), clause(1, 0, 2, 3, 4),
			lists(clause(-3, 1), clause(-3, 2), clause(3, -1, -2), clause(-4, -3), clause(-4, 2), clause(4, 3, -2), clause(4))},
		{"not on what is made of it", gates(in, and(2, 2), and(4, 2)), lists(clause(5)), clause(1, 2, 0),
			lists(clause(-2, 1), clause(-2, 1), clause(2, -1, -1), clause(-2))},
		{"the same literal twice", gates(in, and(3, 3)), lists(clause(4)), clause(1, 2),
			lists(clause(-2, -1), clause(-2, -1), clause(2, 1, 1), clause(2))},
		{"a literal and its negation", gates(in, and(2, 3)), lists(clause(4)), clause(1, 2),
			lists(clause(-2, 1), clause(-2, -1), clause(2, -1, 1), clause(2))},
		{"0 first", gates(in, and(0, 2)), lists(clause(5)), clause(1, 2), lists(clause(-2), clause(-2, 1), clause(-2))},
		{"0 second", gates(in, and(3, 0)), lists(clause(5)), clause(1, 2), lists(clause(-2, -1), clause(-2), clause(-2))},
		{"1 first", gates(in, and(1, 2)), lists(clause(4)), clause(1, 2), lists(clause(-2, 1), clause(2, -1), clause(2))},
		{"1 second", gates(in, and(3, 1)), lists(clause(4)), clause(1, 2), lists(clause(-2, -1), clause(2, 1), clause(2))},
		{"0 and 1", gates(and(0, 1)), lists(clause(3)), clause(1), lists(clause(-1), clause(-1))},
		{"1 and 0", gates(and(1, 0)), lists(clause(2)), clause(1), lists(clause(-1), clause(1))},
		{"0 and 0", gates(and(0, 0)), lists(clause(2)), clause(1), lists(clause(-1), clause(-1), clause(1))},
		{"1 and 1", gates(and(1, 1)), lists(clause(3)), clause(1), lists(clause(1), clause(-1))},
		{"the greater one first", gates(in, in, and(5, 2)), lists(clause(7)), clause(1, 2, 3),
			lists(clause(-3, -2), clause(-3, 1), clause(3, 2, -1), clause(-3))},
		{"in a clause in which 1 stands", gates(in, in, and(2, 4)), lists(clause(6, 1)), clause(1, 2, 3),
			lists(clause(-3, 1), clause(-3, 2), clause(3, -1, -2))},
		{"of an input between", gates(in, and(1, 3), in, and(4, 7)), lists(clause(9, 2), clause(0)), clause(1, 2, 3, 4),
			lists(clause(-2, -1), clause(2, 1), clause(-4, 2), clause(-4, -3), clause(4, -2, 3), clause(-4, 1), nil)},
		{"two alike", gates(in, in, and(2, 4), and(2, 4)), lists(clause(6), clause(9)), clause(1, 2, 3, 4),
			lists(clause(-3, 1), clause(-3, 2), clause(3, -1, -2), clause(-4, 1), clause(-4, 2), clause(4, -1, -2), clause(3), clause(-4))},
	}
}

// TestEdges: the edges that the chapter names.
func TestEdges(t *testing.T) {
	for _, e := range slices.Concat(clauseEdges(), nodeEdges()) {
		got, errno := Build(e.g, e.asked)
		if errno != api.OK {
			t.Fatalf("%s: %d", e.name, errno)
		}
		vars := 0
		for _, v := range e.vars {
			vars = max(vars, v)
		}
		if got.Cnf.Vars != vars || !slices.Equal(got.Vars, e.vars) || !sameLists(got.Cnf.Clauses, e.clauses) {
			t.Errorf("%s: %v, not %v, %v", e.name, got, e.vars, e.clauses)
		}
		built(t, e.g, e.asked)
		for l := -1; l < 2*len(e.g)+4; l++ {
			if code := Code(got, l); code != plainCode(e.vars, l) {
				t.Errorf("%s: Code of %d: %d, not %d", e.name, l, code, plainCode(e.vars, l))
			}
		}
	}
}

// TestCode: of what has a variable, and of what has none.
func TestCode(t *testing.T) {
	c, e := Build(gates(in, in, in, and(2, 6)), lists(clause(8)))
	if e != api.OK {
		t.Fatalf("Build: %d", e)
	}
	for l, want := range []int{0, 0, 1, -1, 0, 0, 2, -2, 3, -3, 0, 0, 0} {
		if got := Code(c, l); got != want {
			t.Errorf("Code of %d: %d, not %d", l, got, want)
		}
	}
	for _, l := range wrong(4) {
		if got := Code(c, l); got != 0 {
			t.Errorf("Code of %d: %d", l, got)
		}
	}
	for l := -2; l < 4; l++ {
		if got := Code(api.Coded{}, l); got != 0 {
			t.Errorf("Code of %d, of nothing: %d", l, got)
		}
	}
	if !slices.Equal(c.Vars, clause(1, 0, 2, 3)) {
		t.Errorf("Code turned the variables: %v", c.Vars)
	}
}

// TestCodeOthers: of Vars that Build did not give, what is a variable is taken as it stands there.
func TestCodeOthers(t *testing.T) {
	vars := []int{7, 7, 0, 1, theVars, theVars + 1, -1, -theVars, math.MinInt, math.MaxInt}
	for _, f := range []api.Cnf{{}, {Vars: 3}, {Vars: theVars}} {
		c := api.Coded{Cnf: f, Vars: vars}
		for i, want := range []int{7, 7, 0, 1, theVars, 0, 0, 0, 0, 0} {
			if l := 2*i + 2; Code(c, l) != want || Code(c, l+1) != -want {
				t.Errorf("of the variable %d: %d, %d", vars[i], Code(c, l), Code(c, l+1))
			}
		}
	}
}

// TestInsOthers: of Vars that Build did not give.
func TestInsOthers(t *testing.T) {
	g := gates(in, in, and(2, 4), in)
	for _, vars := range [][]int{nil, {}, {1}, {1, 2, 3}, {1, 2, 3, 4, 5}, make([]int, 8)} {
		if got := Ins(g, api.Coded{Cnf: api.Cnf{Vars: 4}, Vars: vars}, clause(1, 1, 1, 1)); len(got) != 0 {
			t.Errorf("of %d variables for four nodes: %v", len(vars), got)
		}
	}
	for _, m := range [][]int{nil, {}, {1}, {-1, 1}, {0, 0, 1}, {1, 1, 1, 1, 1}, {-1, -1, -1, -1}, slices.Repeat([]int{5}, 9)} {
		for _, vars := range [][]int{
			{1, 2, 3, 4}, {4, 3, 2, 1}, {1, 1, 1, 1}, {0, 0, 0, 0}, {-1, -2, -3, -4}, {2, -1, 0, 9},
			{math.MinInt, math.MaxInt, 1, theVars}, {theVars, theVars + 1, 1, math.MinInt + 1},
		} {
			c := api.Coded{Cnf: api.Cnf{Vars: 2, Clauses: lists(clause(9))}, Vars: vars}
			if got, want := Ins(g, c, m), plainIns(g, vars, m); !slices.Equal(got, want) {
				t.Errorf("of the variables %v by %v: %v, not %v", vars, m, got, want)
			}
		}
	}
	c := api.Coded{Vars: clause(theVars, theVars+1)}
	m := slices.Repeat([]int{1}, theVars+1)
	if got := Ins(gates(in, in), c, m); !slices.Equal(got, []bool{true, false}) {
		t.Errorf("of the greatest variable, and one beyond it: %v", got)
	}
}

// TestInsModels: models of any numbers, shorter and longer ones than the formula has variables.
func TestInsModels(t *testing.T) {
	g := gates(in, in, and(2, 4), in, in)
	c := built(t, g, lists(clause(6), clause(11)))
	if want := clause(1, 2, 3, 0, 4); !slices.Equal(c.Vars, want) {
		t.Fatalf("the variables %v, not %v", c.Vars, want)
	}
	for _, row := range []struct {
		m    []int
		want []bool
	}{
		{nil, []bool{false, false, false, false}},
		{clause(1), []bool{true, false, false, false}},
		{clause(0, 1), []bool{false, true, false, false}},
		{clause(-1, 1, -1), []bool{false, true, false, false}},
		{clause(1, 1, 1), []bool{true, true, false, false}},
		{clause(1, 1, 1, 1), []bool{true, true, false, true}},
		{clause(9, -9, 0, 7), []bool{true, false, false, true}},
		{clause(math.MaxInt, math.MinInt, 1, math.MinInt), []bool{true, false, false, false}},
		{clause(-1, -1, -1, 2, 1, 1, 1, 1, 1), []bool{false, false, false, true}},
		{clause(0, 0, 0, 0, 1), []bool{false, false, false, false}},
	} {
		if got := Ins(g, c, row.m); !slices.Equal(got, row.want) {
			t.Errorf("by %v: %v, not %v", row.m, got, row.want)
		}
	}
	if got := Ins(nil, api.Coded{}, clause(1)); len(got) != 0 {
		t.Errorf("of no nodes: %v", got)
	}
	if got := Ins(gates(and(1, 1)), api.Coded{Vars: clause(1)}, clause(1)); len(got) != 0 {
		t.Errorf("of no inputs: %v", got)
	}
}

// TestAsked: with fewer and more inputs than there are, and numbers that are no literals: these are not true.
func TestAsked(t *testing.T) {
	g := gates(in, in, and(2, 5))
	for _, row := range []struct {
		clauses [][]int
		ins     []bool
		want    bool
	}{
		{nil, nil, true},
		{lists(), []bool{true}, true},
		{lists(nil), []bool{true, true}, false},
		{lists(clause(1)), nil, true},
		{lists(clause(0)), nil, false},
		{lists(clause(0, 1)), nil, true},
		{lists(clause(1), nil), nil, false},
		{lists(clause(2)), nil, false},
		{lists(clause(3), clause(5), clause(7)), nil, true},
		{lists(clause(2)), []bool{true}, true},
		{lists(clause(6), clause(5)), []bool{true}, true},
		{lists(clause(6)), []bool{true, true}, false},
		{lists(clause(6)), []bool{true, false, true, true}, true},
		{lists(clause(4)), []bool{true, false, true, true}, false},
		{lists(clause(2), clause(4)), []bool{true, true, false}, true},
		{lists(clause(2, 4), clause(3, 5)), []bool{true, true}, false},
		{lists(clause(2, 4), clause(3, 5)), []bool{false, true}, true},
		{lists(clause(-1)), []bool{true, true}, false},
		{lists(clause(-2)), []bool{true, true}, false},
		{lists(clause(8)), []bool{true, true, true}, false},
		{lists(clause(9)), []bool{true, true, true}, false},
		{lists(clause(-1, 2, 9)), []bool{true}, true},
		{lists(clause(2), clause(math.MaxInt)), []bool{true}, false},
		{lists(clause(math.MinInt), clause(2)), []bool{true}, false},
		{lists(clause(math.MinInt, 2), clause(math.MaxInt, 3, 1)), []bool{true}, true},
		{lists(slices.Repeat(clause(3), theWide+1)), []bool{true}, false},
		{lists(append(slices.Repeat(clause(3), theWide+1), 2)), []bool{true}, true},
	} {
		if got := Asked(g, row.clauses, row.ins); got != row.want || plainAsked(g, row.clauses, row.ins) != row.want {
			t.Errorf("Asked of %v by %v: %v", row.clauses, row.ins, got)
		}
	}
	if !Asked(nil, nil, nil) || !Asked(nil, lists(clause(1)), nil) || Asked(nil, lists(clause(0)), nil) || Asked(nil, lists(clause(2)), []bool{true}) {
		t.Error("Asked of no nodes")
	}
}

// TestAskedMany: more clauses than a formula may have.
func TestAskedMany(t *testing.T) {
	clauses := slices.Repeat(lists(clause(0, 2)), theClauses+1)
	if !Asked(gates(in), clauses, []bool{true}) || Asked(gates(in), clauses, nil) {
		t.Error("of many clauses")
	}
	clauses[theClauses] = clause(3)
	if Asked(gates(in), clauses, []bool{true}) {
		t.Error("of many clauses, the last one false")
	}
}
