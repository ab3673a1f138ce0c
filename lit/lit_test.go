package lit

import (
	"math"
	"slices"
	"testing"

	"fathom/api"
)

const top = api.MaxVar

// wide is a clause of n literals, of the variables from first on.
func wide(first, n int) []int {
	c := make([]int, n)
	for i := range c {
		c[i] = first + i
	}
	return c
}

// repeated is n times the same clause.
func repeated(c []int, n int) [][]int {
	l := make([][]int, n)
	for i := range l {
		l[i] = c
	}
	return l
}

// lists is all lists of at most most numbers out of some.
func lists(some []int, most int) [][]int {
	all := [][]int{{}}
	for from := 0; most > 0; most-- {
		end := len(all)
		for _, l := range all[from:end] {
			for _, n := range some {
				all = append(all, append(slices.Clone(l), n))
			}
		}
		from = end
	}
	return all
}

// noClauses is lists that are no clauses.
func noClauses() [][]int {
	return [][]int{
		{0}, {1, 0}, {0, 1}, {1, 2, 0, 3},
		{top + 1}, {-top - 1}, {1, top + 1}, {math.MaxInt}, {math.MinInt}, {1, math.MinInt, 2},
		wide(1, api.MaxWide+1), repeatedLiteral(1, api.MaxWide+1),
	}
}

// repeatedLiteral is n times the same literal.
func repeatedLiteral(l, n int) []int {
	return slices.Repeat([]int{l}, n)
}

// noFormulas is what is no formula.
func noFormulas() []api.Cnf {
	all := []api.Cnf{
		{Vars: -1}, {Vars: top + 1}, {Vars: math.MinInt}, {Vars: math.MaxInt},
		{Vars: 0, Clauses: [][]int{{1}}},
		{Vars: 2, Clauses: [][]int{{1}, {3}}},
		{Vars: 2, Clauses: [][]int{{1}, {2, -3}}},
		{Vars: -1, Clauses: [][]int{{1}}},
		{Vars: 1, Clauses: repeated([]int{1}, api.MaxClauses+1)},
		{Vars: 0, Clauses: repeated(nil, api.MaxClauses+1)},
	}
	for _, c := range noClauses() {
		all = append(all, api.Cnf{Vars: top, Clauses: [][]int{{1}, c}})
	}
	return all
}

func TestCheck(t *testing.T) {
	good := [][]int{
		nil, {}, {1}, {-1}, {top}, {-top}, {1, -1}, {2, 2, 2}, {3, -1, 2},
		wide(1, api.MaxWide), wide(top-api.MaxWide+1, api.MaxWide), repeatedLiteral(-top, api.MaxWide),
	}
	for i, c := range good {
		if e := Check(c); e != api.OK {
			t.Errorf("clause %d: %d", i, e)
		}
	}
	for i, c := range noClauses() {
		if e := Check(c); e != api.ErrArg {
			t.Errorf("no clause %d: %d", i, e)
		}
	}
}

func TestCheckCnf(t *testing.T) {
	good := []api.Cnf{
		{}, {Vars: 0, Clauses: [][]int{{}}}, {Vars: 0, Clauses: [][]int{}}, {Vars: top},
		{Vars: 1, Clauses: [][]int{{1}, {-1}, {1, -1}, {1, 1}}},
		{Vars: top, Clauses: [][]int{{top, -top}}},
		{Vars: api.MaxWide, Clauses: [][]int{wide(1, api.MaxWide)}},
		{Vars: 1, Clauses: repeated([]int{-1}, api.MaxClauses)},
	}
	for i, f := range good {
		if e := CheckCnf(f); e != api.OK {
			t.Errorf("formula %d: %d", i, e)
		}
	}
	for i, f := range noFormulas() {
		if e := CheckCnf(f); e != api.ErrArg {
			t.Errorf("no formula %d: %d", i, e)
		}
	}
}

func TestNorm(t *testing.T) {
	tests := []struct {
		c, want   []int
		tautology bool
	}{
		{nil, nil, false},
		{[]int{}, nil, false},
		{[]int{-2, 1, -2}, []int{1, -2}, false},
		{[]int{3, 2, 1}, []int{1, 2, 3}, false},
		{[]int{-3, -2, -1}, []int{-1, -2, -3}, false},
		{[]int{-10, 9, -1}, []int{-1, 9, -10}, false},
		{[]int{-1, 1}, []int{1, -1}, true},
		{[]int{1, -1}, []int{1, -1}, true},
		{[]int{-2, 3, 2, -2, 2, 1}, []int{1, 2, -2, 3}, true},
		{[]int{-top, 1, top}, []int{1, top, -top}, true},
		{[]int{-top, 1, -top}, []int{1, -top}, false},
		{repeatedLiteral(-7, api.MaxWide), []int{-7}, false},
	}
	for _, x := range tests {
		if got, tautology := Norm(x.c); !slices.Equal(got, x.want) || tautology != x.tautology {
			t.Errorf("Norm(%v) = %v, %v", x.c, got, tautology)
		}
	}
	backwards := wide(1, api.MaxWide)
	slices.Reverse(backwards)
	if got, tautology := Norm(backwards); tautology || !slices.Equal(got, wide(1, api.MaxWide)) {
		t.Error("Norm of the widest clause")
	}
	for i, c := range noClauses() {
		if got, tautology := Norm(c); len(got) != 0 || tautology {
			t.Errorf("Norm of no clause %d", i)
		}
	}
	if _, tautology := Norm([]int{1, -1, 0}); tautology {
		t.Error("a tautology that is no clause")
	}
}

func TestNormOfAllShortClauses(t *testing.T) {
	for _, c := range lists([]int{1, -1, 2, -2, 3, -3}, 4) {
		var want []int
		tautology := false
		for v := 1; v <= 3; v++ {
			above, below := slices.Contains(c, v), slices.Contains(c, -v)
			tautology = tautology || above && below
			if above {
				want = append(want, v)
			}
			if below {
				want = append(want, -v)
			}
		}
		if got, taut := Norm(c); !slices.Equal(got, want) || taut != tautology {
			t.Fatalf("Norm(%v) = %v, %v", c, got, taut)
		}
	}
}

func TestValue(t *testing.T) {
	m := []int{1, -1, 0, 7, -7, math.MaxInt, math.MinInt}
	for i, want := range []int{1, -1, 0, 1, -1, 1, -1, 0, 0} {
		if got := Value(m, i+1); got != want {
			t.Errorf("variable %d: %d", i+1, got)
		}
		if got := Value(m, -i-1); got != -want {
			t.Errorf("negation of %d: %d", i+1, got)
		}
	}
	long := repeatedLiteral(1, top+1)
	if Value(long, top) != 1 || Value(long, -top) != -1 {
		t.Error("the last variable")
	}
	for _, l := range []int{0, top + 1, -top - 1, math.MaxInt, math.MinInt} {
		if Value(long, l) != 0 || Value(nil, l) != 0 {
			t.Errorf("%d is no literal", l)
		}
	}
	if Value(nil, 1) != 0 || Value([]int{}, -1) != 0 || Value(nil, -top) != 0 {
		t.Error("beyond the model")
	}
}

func TestClause(t *testing.T) {
	m := []int{1, -1, 0}
	tests := []struct {
		c    []int
		want int
	}{
		{nil, -1}, {[]int{}, -1},
		{[]int{1}, 1}, {[]int{-1}, -1}, {[]int{2}, -1}, {[]int{-2}, 1}, {[]int{3}, 0}, {[]int{-3}, 0}, {[]int{4}, 0},
		{[]int{-1, 2}, -1}, {[]int{-1, 3}, 0}, {[]int{3, -1}, 0}, {[]int{3, 1}, 1}, {[]int{1, 3}, 1},
		{[]int{-1, 2, -2}, 1}, {[]int{3, -3}, 0}, {[]int{-1, 4, 2}, 0}, {[]int{-1, -1}, -1},
	}
	for _, x := range tests {
		if got := Clause(m, x.c); got != x.want {
			t.Errorf("Clause(%v) = %d", x.c, got)
		}
	}
	if Clause(nil, []int{1, -1}) != 0 || Clause(nil, nil) != -1 {
		t.Error("without a model")
	}
	for i, c := range noClauses() {
		if got := Clause([]int{1}, c); got != 0 {
			t.Errorf("no clause %d: %d", i, got)
		}
		if got := Clause(repeatedLiteral(-1, top), c); got != 0 {
			t.Errorf("no clause %d, all false: %d", i, got)
		}
	}
}

func TestHolds(t *testing.T) {
	f := api.Cnf{Vars: 2, Clauses: [][]int{{1, 2}, {-1}}}
	tests := []struct {
		f    api.Cnf
		m    []int
		want bool
	}{
		{f, []int{-1, 1}, true}, {f, []int{-5, 3, 9}, true},
		{f, []int{1, 1}, false}, {f, []int{-1, 0}, false}, {f, []int{-1}, false}, {f, []int{0, 1}, false}, {f, nil, false},
		{api.Cnf{}, nil, true}, {api.Cnf{Vars: 3}, nil, true},
		{api.Cnf{Clauses: [][]int{{}}}, nil, false}, {api.Cnf{Vars: 1, Clauses: [][]int{{1}, nil}}, []int{1}, false},
		{api.Cnf{Vars: 1, Clauses: [][]int{{1, -1}}}, []int{1}, true},
		{api.Cnf{Vars: 1, Clauses: [][]int{{1, -1}}}, []int{0}, false},
	}
	for _, x := range tests {
		if got := Holds(x.f, x.m); got != x.want {
			t.Errorf("Holds(%v, %v) = %v", x.f, x.m, got)
		}
	}
	for i, g := range noFormulas() {
		if Holds(g, []int{1, 1, 1}) {
			t.Errorf("no formula %d holds", i)
		}
	}
	if Holds(api.Cnf{Vars: -1}, nil) || Holds(api.Cnf{Vars: top + 1}, nil) {
		t.Error("a formula with wrong Vars holds")
	}
}

func TestResolve(t *testing.T) {
	tests := []struct {
		a, b []int
		v    int
		want []int
	}{
		{[]int{1, 2}, []int{-1, 3}, 1, []int{2, 3}},
		{[]int{1}, []int{-1}, 1, nil},
		{[]int{1, 1}, []int{-1, -1, -1}, 1, nil},
		{[]int{3, 1, -2}, []int{-2, 3, -1}, 1, []int{-2, 3}},
		{[]int{1, 2}, []int{-1, -2}, 1, []int{2, -2}},
		{[]int{1, 2}, []int{-1, -2}, 2, []int{1, -1}},
		{[]int{1, -1}, []int{-1, 1}, 1, []int{1, -1}},
		{[]int{1, -1, 2}, []int{-1, 3}, 1, []int{-1, 2, 3}},
		{[]int{2, 1}, []int{3, 1, -1}, 1, []int{1, 2, 3}},
		{[]int{top, 5}, []int{-top, 4}, top, []int{4, 5}},
	}
	for _, x := range tests {
		if got, e := Resolve(x.a, x.b, x.v); e != api.OK || !slices.Equal(got, x.want) {
			t.Errorf("Resolve(%v, %v, %d) = %v, %d", x.a, x.b, x.v, got, e)
		}
	}
}

func TestResolveWide(t *testing.T) {
	a := wide(1, api.MaxWide)
	b := wide(api.MaxWide+1, api.MaxWide-1)
	got, e := Resolve(a, append(b, -1), 1)
	if e != api.OK || !slices.Equal(got, wide(2, 2*api.MaxWide-2)) {
		t.Error("what is left of two of the widest clauses", len(got), e)
	}
}

func TestResolveErrors(t *testing.T) {
	refused := func(a, b []int, v int, want api.Errno) {
		t.Helper()
		if got, e := Resolve(a, b, v); e != want || len(got) != 0 {
			t.Errorf("Resolve(%.9v, %.9v, %d) = %v, %d", a, b, v, got, e)
		}
	}
	for _, c := range noClauses() {
		refused(c, []int{-1}, 1, api.ErrArg)
		refused([]int{1}, c, 1, api.ErrArg)
		refused(c, c, 1, api.ErrArg)
		refused([]int{2}, c, 1, api.ErrArg)
		refused(c, nil, 1, api.ErrArg)
	}
	for _, v := range []int{0, -1, -top, top + 1, math.MinInt, math.MaxInt} {
		refused([]int{1, -1}, []int{1, -1}, v, api.ErrArg)
		refused(nil, nil, v, api.ErrArg)
	}
	refused([]int{-1, 2}, []int{-1, 3}, 1, api.ErrNone)
	refused([]int{1, 2}, []int{1, 3}, 1, api.ErrNone)
	refused([]int{-1, 2}, []int{1, 3}, 1, api.ErrNone)
	refused([]int{2}, []int{-1}, 1, api.ErrNone)
	refused([]int{1}, []int{2}, 1, api.ErrNone)
	refused(nil, []int{-1}, 1, api.ErrNone)
	refused([]int{1}, nil, 1, api.ErrNone)
	refused(nil, nil, top, api.ErrNone)
}

func TestGiven(t *testing.T) {
	f := api.Cnf{Vars: 3, Clauses: [][]int{{1, 2}, {3, -1, 2, -1, 3}, {-1}, {}, {2, -3}, {1, -1}, {2, -3}}}
	tests := []struct {
		l    int
		want [][]int
	}{
		{1, [][]int{{3, 2, 3}, {}, {}, {2, -3}, {2, -3}}},
		{-1, [][]int{{2}, {}, {2, -3}, {2, -3}}},
		{2, [][]int{{-1}, {}, {1, -1}}},
		{-3, [][]int{{1, 2}, {-1, 2, -1}, {-1}, {}, {1, -1}}},
		{4, f.Clauses}, {-4, f.Clauses}, {top, f.Clauses},
		{0, f.Clauses}, {top + 1, f.Clauses}, {-top - 1, f.Clauses}, {math.MinInt, f.Clauses}, {math.MaxInt, f.Clauses},
	}
	for _, x := range tests {
		if got := Given(f, x.l); !Same(got, api.Cnf{Vars: 3, Clauses: x.want}) {
			t.Errorf("Given(f, %d) = %v", x.l, got)
		}
	}
	if got := Given(api.Cnf{Vars: 5}, 1); got.Vars != 5 || len(got.Clauses) != 0 {
		t.Error("of an empty formula")
	}
	if got := Given(api.Cnf{Vars: 1, Clauses: [][]int{{1}}}, 1); got.Vars != 1 || len(got.Clauses) != 0 {
		t.Error("without its only clause")
	}
	for i, g := range noFormulas() {
		for _, l := range []int{1, -1, 0, top + 1} {
			if got := Given(g, l); got.Vars != 0 || len(got.Clauses) != 0 {
				t.Errorf("no formula %d", i)
			}
		}
	}
}

func TestWithin(t *testing.T) {
	tests := []struct {
		a, b []int
		want bool
	}{
		{nil, nil, true}, {nil, []int{1}, true}, {[]int{}, nil, true},
		{[]int{1}, nil, false}, {[]int{1}, []int{-1}, false},
		{[]int{1, 1, 1}, []int{1}, true}, {[]int{1}, []int{2, 1, 2}, true},
		{[]int{3, 1}, []int{1, 2, 3}, true}, {[]int{1, 2, 3}, []int{3, 1}, false}, {[]int{3, 4}, []int{4, 9, 3, -4}, true},
		{[]int{0}, []int{0}, true}, {[]int{0}, []int{1}, false},
		{[]int{math.MinInt, math.MaxInt, top + 1}, []int{top + 1, math.MaxInt, math.MinInt}, true},
		{[]int{math.MinInt}, []int{math.MaxInt}, false},
		{wide(1, api.MaxWide+1), wide(0, api.MaxWide+2), true},
		{wide(0, api.MaxWide+1), wide(1, api.MaxWide+2), false},
	}
	for i, x := range tests {
		if got := Within(x.a, x.b); got != x.want {
			t.Errorf("%d: %v", i, got)
		}
	}
	if n := 1 << 20; !Within(wide(0, n), wide(0, n)) {
		t.Error("of long lists")
	}
}

func TestSame(t *testing.T) {
	f := func() api.Cnf { return api.Cnf{Vars: 3, Clauses: [][]int{{1, -2}, {}, {3}}} }
	if !Same(f(), f()) || !Same(api.Cnf{}, api.Cnf{Clauses: [][]int{}}) || !Same(api.Cnf{Clauses: [][]int{nil}}, api.Cnf{Clauses: [][]int{{}}}) {
		t.Error("they are alike")
	}
	others := []api.Cnf{
		{}, {Vars: 3}, {Vars: 4, Clauses: f().Clauses}, {Vars: 3, Clauses: f().Clauses[:2]},
		{Vars: 3, Clauses: [][]int{{-2, 1}, {}, {3}}}, {Vars: 3, Clauses: [][]int{{1, -2}, {3}, {}}},
		{Vars: 3, Clauses: [][]int{{1, -2}, {}, {-3}}}, {Vars: 3, Clauses: [][]int{{1, -2, 1}, {}, {3}}},
		{Vars: 3, Clauses: [][]int{{1, -2}, {}, {3}, {}}}, {Vars: 3, Clauses: [][]int{{1}, {-2}, {3}}},
	}
	for i, g := range others {
		if Same(f(), g) || Same(g, f()) {
			t.Errorf("%d is another one", i)
		}
	}
	wrong := api.Cnf{Vars: -1, Clauses: [][]int{{0, math.MinInt}}}
	if !Same(wrong, api.Cnf{Vars: -1, Clauses: [][]int{{0, math.MinInt}}}) || Same(wrong, api.Cnf{Vars: -1, Clauses: [][]int{{0, math.MaxInt}}}) {
		t.Error("of what is no formula")
	}
}

// models is all models of three variables, with open ones, and some that are shorter.
func models() [][]int {
	return lists([]int{1, 0, -1}, 3)
}

func TestWhatIsResolvedFollows(t *testing.T) {
	clauses := lists([]int{1, -1, 2, -2, 3}, 3)
	all := models()
	for _, a := range clauses {
		for _, b := range clauses {
			r, e := Resolve(a, b, 1)
			if has := slices.Contains(a, 1) && slices.Contains(b, -1); has != (e == api.OK) {
				t.Fatalf("Resolve(%v, %v, 1): %d", a, b, e)
			} else if !has {
				continue
			}
			for _, m := range all {
				if Clause(m, a) == 1 && Clause(m, b) == 1 && Clause(m, r) != 1 {
					t.Fatalf("%v and %v are true by %v, but not %v", a, b, m, r)
				}
			}
		}
	}
}

func TestGivenHoldsAsTheFormula(t *testing.T) {
	clauses := lists([]int{1, -1, 2, -2, 3}, 2)
	all := models()
	for _, a := range clauses {
		for _, b := range clauses {
			f := api.Cnf{Vars: 3, Clauses: [][]int{a, b}}
			for _, l := range []int{1, -1, 2, -2, 3, -3} {
				g := Given(f, l)
				for _, m := range all {
					if Value(m, l) == 1 && Holds(f, m) != Holds(g, m) {
						t.Fatalf("%v given %d, by %v", f, l, m)
					}
				}
			}
		}
	}
}

func TestNormKeepsTheValue(t *testing.T) {
	all := models()
	for _, c := range lists([]int{1, -1, 2, -2, 3, -3}, 4) {
		n, _ := Norm(c)
		for _, m := range all {
			if Clause(m, n) != Clause(m, c) {
				t.Fatalf("%v, in order %v, by %v", c, n, m)
			}
		}
	}
}

func TestValuesByTheirWords(t *testing.T) {
	for _, m := range models() {
		for _, c := range lists([]int{1, -1, 2, -3}, 3) {
			has := map[int]int{}
			for _, l := range c {
				has[Value(m, l)]++
			}
			want := -1
			if has[1] > 0 {
				want = 1
			} else if has[0] > 0 {
				want = 0
			}
			if got := Clause(m, c); got != want {
				t.Fatalf("Clause(%v, %v) = %d", m, c, got)
			}
			if got := Holds(api.Cnf{Vars: 3, Clauses: [][]int{c, {1, -1}}}, m); got != (want == 1 && Value(m, 1) != 0) {
				t.Fatalf("Holds(%v, %v) = %v", c, m, got)
			}
		}
	}
}

func TestNothingHandedInIsWrittenTo(t *testing.T) {
	a, b := []int{2, 1, -3, 1, 2}, []int{3, -1, -2, -1}
	m := []int{1, -1, 0}
	f := api.Cnf{Vars: 3, Clauses: [][]int{a, b}}
	Check(a)
	CheckCnf(f)
	Norm(a)
	Value(m, 1)
	Clause(m, a)
	Holds(f, m)
	Resolve(a, b, 1)
	Given(f, 2)
	Given(f, 0)
	Within(a, b)
	Same(f, f)
	if !slices.Equal(a, []int{2, 1, -3, 1, 2}) || !slices.Equal(b, []int{3, -1, -2, -1}) || !slices.Equal(m, []int{1, -1, 0}) {
		t.Error("a list was written to")
	}
	if f.Vars != 3 || len(f.Clauses) != 2 || &f.Clauses[0][0] != &a[0] || &f.Clauses[1][0] != &b[0] {
		t.Error("a formula was written to")
	}
}

func TestAnswersAreNewMemory(t *testing.T) {
	spoil := func(l []int) {
		l = l[:cap(l)]
		for i := range l {
			l[i] = 99
		}
	}
	a, b := []int{1, 2}, []int{-1, 3}
	n, _ := Norm(a)
	spoil(n)
	r, _ := Resolve(a, b, 1)
	spoil(r)
	f := api.Cnf{Vars: 3, Clauses: [][]int{a, b, a}}
	for _, l := range []int{0, -2, 3, top} {
		g := Given(f, l)
		for i, c := range g.Clauses {
			spoil(c)
			for _, d := range g.Clauses[i+1:] {
				if slices.Contains(d, 99) {
					t.Error("two clauses of an answer share memory")
				}
			}
			g.Clauses[i] = nil
		}
	}
	if !slices.Equal(a, []int{1, 2}) || !slices.Equal(b, []int{-1, 3}) || f.Clauses[0] == nil || f.Clauses[1] == nil {
		t.Error("an answer shares memory with what was handed in")
	}
}
