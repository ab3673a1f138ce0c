package card

import (
	"math"
	"slices"
	"testing"

	"fathom/aig"
)

// judge is a call that tells a literal, of literals and a number.
type judge struct {
	name   string
	tell   func(x *aig.Aig, l []int, k int) int
	reckon func(n, k int) bool
}

// judges is all of them.
func judges() []judge {
	return []judge{
		{"Least", Least, func(n, k int) bool { return n >= k }},
		{"Most", Most, func(n, k int) bool { return n <= k }},
		{"Just", Just, func(n, k int) bool { return n == k }},
	}
}

// answers is all that is told of a list: the word, a literal for each of some numbers of each judge, and clauses.
type answers struct {
	ks      []int
	word    []int
	judged  [][]int
	clauses [][]int
}

// tellAll asks all calls about a list.
func tellAll(x *aig.Aig, l, ks []int) answers {
	a := answers{ks: ks, word: Count(x, l), clauses: One(x, l)}
	for _, j := range judges() {
		var row []int
		for _, k := range ks {
			row = append(row, j.tell(x, l, k))
		}
		a.judged = append(a.judged, row)
	}
	return a
}

// like tells whether the same was told.
func (a answers) like(b answers) bool {
	return slices.Equal(a.ks, b.ks) && slices.Equal(a.word, b.word) && sameLists(a.judged, b.judged) && sameLists(a.clauses, b.clauses)
}

// isNone tells whether none, -1, none is told.
func (a answers) isNone() bool {
	for _, row := range a.judged {
		for _, l := range row {
			if l != -1 {
				return false
			}
		}
	}
	return len(a.word) == 0 && len(a.clauses) == 0
}

// formed fails unless what was told is of literals of the graph, and the word of just as many as are enough.
func (a answers) formed(t *testing.T, x *aig.Aig, l []int) {
	t.Helper()
	if len(a.word) != plainEnough(len(l)) {
		t.Fatalf("Count of %v: %v, of %d literals", l, a.word, len(l))
	}
	if len(a.clauses) == 0 {
		t.Fatalf("One of %v told none", l)
	}
	for _, list := range slices.Concat([][]int{a.word}, a.judged, a.clauses) {
		for _, k := range list {
			if !x.Is(k) {
				t.Fatalf("of %v: %v, and %d is no literal", l, a, k)
			}
		}
	}
}

// right fails unless what was told is what is reckoned, where literals are as a view says.
func (a answers) right(t *testing.T, l []int, v view) {
	t.Helper()
	n := plainCount(v.all(l))
	if got := plainNumber(v.all(a.word)); got != n {
		t.Fatalf("Count of %v, of which %d are true: %v, the number %d", l, n, a.word, got)
	}
	for i, j := range judges() {
		for at, k := range a.ks {
			if got := v(a.judged[i][at]); got != j.reckon(n, k) {
				t.Fatalf("%s of %v and %d, of which %d are true: %v", j.name, l, k, n, got)
			}
		}
	}
	if got := v.holds(a.clauses); got != (n == 1) {
		t.Fatalf("One of %v, of which %d are true: %v", l, n, got)
	}
}

// sameLists tells whether lists are alike.
func sameLists(a, b [][]int) bool {
	return slices.EqualFunc(a, b, slices.Equal)
}

// numbers is a row of numbers that are as if picked.
type numbers uint64

// pick is the next one, below n.
func (r *numbers) pick(n int) int {
	*r = *r*6364136223846793005 + 1442695040888963407
	return int(*r>>33) % n
}

// wrong is numbers that are no literals of a graph of so many nodes.
func wrong(nodes int) []int {
	past := 2*nodes + 2
	return []int{math.MinInt, math.MinInt + 1, math.MinInt32, -past, -3, -2, -1, past, past + 1, past + 2, 1 << 32, math.MaxInt - 1, math.MaxInt}
}

// far is numbers that are none of how many are true, but for a word of few bits, or an int of fewer, might be.
func far() []int {
	return []int{
		math.MinInt, math.MinInt + 1, math.MinInt + 2, math.MinInt32, -1 << 32, -1 << 16, -128, -127, -64, -63, -3, -2, -1,
		65, 66, 127, 128, 129, 191, 192, 255, 256, 257, 1<<16 - 1, 1 << 16, 1<<16 + 1, math.MaxInt32, 1 << 32, 1<<32 + 1, 1<<32 + 2, math.MaxInt - 1, math.MaxInt,
	}
}

// near is all numbers of how many of n are true, and a few beside them.
func near(n int) []int {
	var ks []int
	for k := -2; k <= n+2; k++ {
		ks = append(ks, k)
	}
	return append(ks, far()...)
}

// some is the edges of near, and one or the other within it.
func some(r *numbers, n int) []int {
	ks := []int{math.MinInt, -1, 0, 1, 2, n / 2, n - 1, n, n + 1, 1 << plainEnough(n), math.MaxInt}
	for range 4 {
		ks = append(ks, r.pick(n+1))
	}
	return ks
}

// inputs is a graph of inputs alone, and their literals.
func inputs(n int) (*aig.Aig, []int) {
	x := aig.New()
	l := make([]int, n)
	for i := range l {
		l[i] = x.In()
	}
	return x, l
}

func TestExample(t *testing.T) {
	x := aig.New()
	l := []int{1, 0, 1}
	if got := Count(x, l); !slices.Equal(got, []int{0, 1}) {
		t.Errorf("Count of 1, 0, 1: %v", got)
	}
	if Least(x, l, 2) != 1 || Least(x, l, 3) != 0 || Most(x, l, 1) != 0 || Most(x, l, 2) != 1 || Just(x, l, 1) != 0 || Just(x, l, 2) != 1 {
		t.Error("Least, Most, Just of 1, 0, 1")
	}
	if x.Len() != 0 {
		t.Errorf("%d nodes", x.Len())
	}
}

func TestEnough(t *testing.T) {
	for n, want := range []int{1, 1, 2, 2, 3, 3, 3, 3, 4} {
		if got := Enough(n); got != want {
			t.Errorf("Enough(%d) = %d, not %d", n, got, want)
		}
	}
	for w := 1; w <= 16; w++ {
		power := 1 << w
		if w < 16 && (Enough(power) != w+1 || Enough(power+1) != w+1) {
			t.Errorf("Enough(%d) = %d, Enough(%d) = %d, not %d", power, Enough(power), power+1, Enough(power+1), w+1)
		}
		if Enough(power-1) != w {
			t.Errorf("Enough(%d) = %d, not %d", power-1, Enough(power-1), w)
		}
	}
	for n := -1 << 10; n <= 1<<17; n++ {
		if got := Enough(n); got != plainEnough(n) {
			t.Fatalf("Enough(%d) = %d, not %d", n, got, plainEnough(n))
		}
	}
	for _, n := range []int{math.MinInt, math.MinInt + 1, -1 << 32, math.MinInt32, -65536, -65535, -1, 1 << 16, 1<<16 + 1, 1 << 17, 1 << 31, 1 << 32, 1<<32 + 1, 1 << 48, 1 << 62, math.MaxInt - 1, math.MaxInt} {
		if got := Enough(n); got != 0 {
			t.Errorf("Enough(%d) = %d", n, got)
		}
	}
}

// TestNoLiterals: of none at all just 0 are true, and never just one is.
func TestNoLiterals(t *testing.T) {
	x, _ := inputs(2)
	for _, l := range [][]int{nil, {}} {
		if got := Count(x, l); !slices.Equal(got, []int{0}) {
			t.Errorf("Count: %v", got)
		}
		if got := One(x, l); len(got) != 1 || len(got[0]) != 0 {
			t.Errorf("One: %v, not one clause that is empty", got)
		}
		for _, k := range near(0) {
			for _, j := range judges() {
				want := 0
				if j.reckon(0, k) {
					want = 1
				}
				if got := j.tell(x, l, k); got != want {
					t.Errorf("%s of none and %d: %d, not %d", j.name, k, got, want)
				}
			}
		}
	}
	if x.Len() != 2 {
		t.Errorf("%d nodes", x.Len())
	}
}

// TestOneLiteral: of one it is told by itself, its negation, 0 and 1.
func TestOneLiteral(t *testing.T) {
	x, _ := inputs(2)
	for l := range 6 {
		list := []int{l}
		if got := Count(x, list); !slices.Equal(got, list) {
			t.Errorf("Count of %d: %v", l, got)
		}
		if Least(x, list, 1) != l || Most(x, list, 0) != l^1 || Just(x, list, 0) != l^1 || Just(x, list, 1) != l {
			t.Errorf("of %d: %d, %d, %d, %d", l, Least(x, list, 1), Most(x, list, 0), Just(x, list, 0), Just(x, list, 1))
		}
	}
	if x.Len() != 2 {
		t.Errorf("%d nodes", x.Len())
	}
}

// TestConstants: of constants alone constants are told, and nothing is made.
func TestConstants(t *testing.T) {
	r := numbers(5)
	x := aig.New()
	for n := range theCounted + 1 {
		for _, trues := range []int{0, 1, 2, n / 2, n - 1, n} {
			if trues < 0 || trues > n {
				continue
			}
			l := append(slices.Repeat([]int{1}, trues), make([]int, n-trues)...)
			for range 5 {
				if got := Count(x, l); !slices.Equal(got, plainWord(trues, plainEnough(n))) {
					t.Fatalf("Count of %v: %v", l, got)
				}
				a := tellAll(x, l, near(n))
				for _, row := range a.judged {
					if slices.Min(row) < 0 || slices.Max(row) > 1 {
						t.Fatalf("of %v: %v", l, row)
					}
				}
				a.formed(t, x, l)
				a.right(t, l, func(l int) bool { return l == 1 })
				for i := range l {
					j := r.pick(n)
					l[i], l[j] = l[j], l[i]
				}
			}
		}
	}
	if x.Len() != 0 {
		t.Errorf("%d nodes were made", x.Len())
	}
}

// valued is what literals are, if a graph's inputs are so.
func valued(x *aig.Aig, ins []bool) view {
	v := aig.Eval(x.Nodes(), ins)
	return func(l int) bool { return aig.Value(v, l) }
}

// TestAllInputs: of few inputs, in all ways in which they may be.
func TestAllInputs(t *testing.T) {
	for n := range 13 {
		x, l := inputs(n)
		a := tellAll(x, l, near(n))
		a.formed(t, x, l)
		ins := make([]bool, n)
		for way := range 1 << n {
			for i := range ins {
				ins[i] = way>>i&1 == 1
			}
			a.right(t, l, valued(x, ins))
		}
	}
}

// TestManyInputs: of more inputs, in many ways: the first ones true, all but those, one alone, all but one, and others that are as if picked.
func TestManyInputs(t *testing.T) {
	r := numbers(17)
	for n := 13; n <= theCounted; n++ {
		x, l := inputs(n)
		ks := some(&r, n)
		if n >= theCounted-2 || n == 31 || n == 32 {
			ks = near(n)
		}
		a := tellAll(x, l, ks)
		a.formed(t, x, l)
		for m := range n + 1 {
			first, rest := make([]bool, n), make([]bool, n)
			alone, others := make([]bool, n), make([]bool, n)
			for i := range n {
				first[i], rest[i] = i < m, i >= m
				alone[i], others[i] = i == m, i != m
			}
			for _, ins := range [][]bool{first, rest, alone, others} {
				a.right(t, l, valued(x, ins))
			}
		}
		for of := 2; of < 20; of++ {
			few, most := make([]bool, n), make([]bool, n)
			for i := range n {
				few[i], most[i] = r.pick(of) == 0, r.pick(of) != 0
			}
			a.right(t, l, valued(x, few))
			a.right(t, l, valued(x, most))
		}
	}
}

// TestSmall: no graph comes to be much greater by a count than one that counts by threes needs to.
func TestSmall(t *testing.T) {
	for n := range theCounted + 1 {
		x, l := inputs(n)
		Count(x, l)
		if made := x.Len() - n; made > 7*n {
			t.Errorf("%d nodes for %d inputs", made, n)
		}
	}
}
