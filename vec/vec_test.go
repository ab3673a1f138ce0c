package vec

import (
	"math"
	"slices"
	"testing"

	"fathom/aig"
	"fathom/api"
)

// ask is a call that tells words, or a literal (as a word of one bit), of one word or two, and maybe a literal.
type ask struct {
	name     string
	operands int
	// takes is whether it is handed a literal, too; judges is whether it tells one.
	takes, judges bool
	tell          func(x *aig.Aig, c int, a, b []int) [][]int
	reckon        func(c bool, a, b, w int) []int
}

// one is a call of one word.
func one(name string, tell func(x *aig.Aig, a []int) []int, reckon func(a, w int) int) ask {
	return ask{
		name:     name,
		operands: 1,
		tell:     func(x *aig.Aig, c int, a, b []int) [][]int { return [][]int{tell(x, a)} },
		reckon:   func(c bool, a, b, w int) []int { return []int{reckon(a, w)} },
	}
}

// two is a call of two words.
func two(name string, tell func(x *aig.Aig, a, b []int) []int, reckon func(a, b, w int) int) ask {
	return ask{
		name:     name,
		operands: 2,
		tell:     func(x *aig.Aig, c int, a, b []int) [][]int { return [][]int{tell(x, a, b)} },
		reckon:   func(c bool, a, b, w int) []int { return []int{reckon(a, b, w)} },
	}
}

// judge is a call of so many words that tells a literal.
func judge(name string, operands int, tell func(x *aig.Aig, a, b []int) int, reckon func(a, b int) bool) ask {
	return ask{
		name:     name,
		operands: operands,
		judges:   true,
		tell:     func(x *aig.Aig, c int, a, b []int) [][]int { return [][]int{{tell(x, a, b)}} },
		reckon:   func(c bool, a, b, w int) []int { return []int{plainIte(reckon(a, b), 1, 0)} },
	}
}

// asks is all calls by which something is reckoned.
func asks() []ask {
	return []ask{
		one("Not", Not, plainNot),
		one("Neg", Neg, plainNeg),
		two("And", And, plainAnd),
		two("Or", Or, plainOr),
		two("Xor", Xor, plainXor),
		two("Add", Add, plainAdd),
		two("Sub", Sub, plainSub),
		two("Mul", Mul, plainMul),
		two("Shl", Shl, plainShl),
		two("Shr", Shr, plainShr),
		{
			name:     "Div",
			operands: 2,
			tell: func(x *aig.Aig, c int, a, b []int) [][]int {
				quotient, rest := Div(x, a, b)
				return [][]int{quotient, rest}
			},
			reckon: func(c bool, a, b, w int) []int {
				return []int{plainQuotient(a, b, w), plainRest(a, b, w)}
			},
		},
		{
			name:     "Ite",
			operands: 2,
			takes:    true,
			tell:     func(x *aig.Aig, c int, a, b []int) [][]int { return [][]int{Ite(x, c, a, b)} },
			reckon:   func(c bool, a, b, w int) []int { return []int{plainIte(c, a, b)} },
		},
		judge("Eq", 2, Eq, func(a, b int) bool { return a == b }),
		judge("Less", 2, Less, func(a, b int) bool { return a < b }),
		judge("Any", 1, func(x *aig.Aig, a, b []int) int { return Any(x, a) }, func(a, b int) bool { return a != 0 }),
	}
}

// width is that of what a call tells of words of a width.
func (k ask) width(w int) int {
	if k.judges {
		return 1
	}
	return w
}

// isNone tells whether a call told none, none, -1.
func (k ask) isNone(told [][]int) bool {
	for _, a := range told {
		if k.judges && (len(a) != 1 || a[0] != -1) || !k.judges && len(a) != 0 {
			return false
		}
	}
	return true
}

// sizes fails unless a call told words of the width that must be, of literals of the graph.
func (k ask) sizes(t *testing.T, x *aig.Aig, told [][]int, w int) {
	t.Helper()
	for _, a := range told {
		if len(a) != k.width(w) {
			t.Fatalf("%s: %v of words of %d bits", k.name, told, w)
		}
		for _, l := range a {
			if !x.Is(l) {
				t.Fatalf("%s: %v, and %d is no literal", k.name, told, l)
			}
		}
	}
}

// same tells whether lists are alike.
func same(a, b [][]int) bool {
	return slices.EqualFunc(a, b, slices.Equal)
}

// numbers is a row of numbers that are as if picked.
type numbers uint64

// pick is the next one, below n.
func (r *numbers) pick(n int) int {
	*r = *r*6364136223846793005 + 1442695040888963407
	return int(*r>>33) % n
}

// wrong is numbers that are no literals of a graph of so many nodes.
func wrong(nodes int) []int {
	past := 2*nodes + 2
	return []int{math.MinInt, math.MinInt + 1, math.MinInt32, -past, -3, -2, -1, past, past + 1, past + 2, 1 << 32, math.MaxInt - 1, math.MaxInt}
}

// edges is the numbers of a width at which something may turn.
func edges(w int) []int {
	greatest := plainMod(-1, w)
	var list []int
	for _, n := range []int{0, 1, 2, 3, 4, 5, 7, 8, 9, w - 1, w, w + 1, 2 * w, greatest / 2, greatest/2 + 1, greatest/2 + 2, greatest / 3, greatest - w, greatest - 2, greatest - 1, greatest} {
		n = plainMod(n, w)
		if !slices.Contains(list, n) {
			list = append(list, n)
		}
	}
	return list
}

// ins is a literal's, and two words' inputs, one after the other.
func ins(c bool, a, b, w int) []bool {
	return slices.Concat([]bool{c}, plainBits(a, w), plainBits(b, w))
}

// read fails unless what was told has just the numbers that are reckoned, if a graph's inputs are as ins says.
func (k ask) read(t *testing.T, g []api.Gate, told [][]int, c bool, a, b, w int) {
	t.Helper()
	v := aig.Eval(g, ins(c, a, b, w))
	want := k.reckon(c, a, b, w)
	for i, word := range told {
		if n := Number(v, word); n != want[i] {
			t.Fatalf("%s of %d bits, %v, %d, %d: the numbers of %v: the %d-th is %d, not %d", k.name, w, c, a, b, told, i, n, want[i])
		}
	}
}

func TestExample(t *testing.T) {
	x := aig.New()
	if got := Add(x, Const(3, 3), Const(6, 3)); !slices.Equal(got, []int{1, 0, 0}) || !slices.Equal(got, Const(1, 3)) {
		t.Errorf("3 and 6, of three bits: %v", got)
	}
}

func TestCheck(t *testing.T) {
	x := aig.New()
	for range 3 {
		x.In()
	}
	for w := range 40 {
		for l := range 8 {
			want := api.OK
			if w < 1 || w > theWidth {
				want = api.ErrArg
			}
			if e := Check(x, slices.Repeat([]int{l}, w)); e != want {
				t.Errorf("%d bits of %d: %d", w, l, e)
			}
		}
	}
	if e := Check(x, nil); e != api.ErrArg {
		t.Errorf("nil: %d", e)
	}
	if e := Check(x, []int{0, 1, 2, 3, 4, 5, 6, 7, 2, 2, 3}); e != api.OK {
		t.Errorf("all literals: %d", e)
	}
	for w := 1; w <= theWidth; w++ {
		for at := range w {
			for _, l := range wrong(3) {
				a := slices.Repeat([]int{2}, w)
				a[at] = l
				if e := Check(x, a); e != api.ErrArg {
					t.Errorf("%v: %d", a, e)
				}
			}
		}
	}
	x.In()
	if e := Check(x, []int{8, 9}); e != api.OK {
		t.Errorf("a node more: %d", e)
	}
	if x.Len() != 4 {
		t.Errorf("Check made nodes: %d", x.Len())
	}
}

func TestConst(t *testing.T) {
	for w := 1; w <= theWidth; w++ {
		list := []int{math.MinInt, math.MinInt + 1, math.MinInt32, -1 << 17, -1<<16 - 1, -1 << 16, -1<<w - 1, -1 << w, -1<<w + 1, 1<<w - 1, 1 << w, 1<<w + 1, 1<<16 - 1, 1 << 16, 1<<16 + 1, math.MaxInt32, math.MaxInt - 1, math.MaxInt}
		for n := -300; n <= 300; n++ {
			list = append(list, n)
		}
		for _, n := range list {
			want := make([]int, w)
			for i, bit := range plainBits(n, w) {
				want[i] = plainIte(bit, 1, 0)
			}
			a := Const(n, w)
			if !slices.Equal(a, want) {
				t.Fatalf("Const(%d, %d) = %v, not %v", n, w, a, want)
			}
			if got := Number(nil, a); got != plainMod(n, w) {
				t.Fatalf("the number of Const(%d, %d) is %d", n, w, got)
			}
			a[0] ^= 1
			if !slices.Equal(Const(n, w), want) {
				t.Fatalf("Const(%d, %d) hangs on what it told", n, w)
			}
		}
	}
	for _, w := range wrongWidths() {
		for _, n := range []int{math.MinInt, -1, 0, 1, 2, math.MaxInt} {
			if a := Const(n, w); len(a) != 0 {
				t.Errorf("Const(%d, %d) = %v", n, w, a)
			}
		}
	}
}

// wrongWidths is widths that no word has.
func wrongWidths() []int {
	return []int{math.MinInt, math.MinInt + 1, -1 << 32, -theWidth, -2, -1, 0, theWidth + 1, theWidth + 2, 2 * theWidth, 1 << 32, 1<<32 + 1, math.MaxInt - 1, math.MaxInt}
}

func TestIn(t *testing.T) {
	x := aig.New()
	total := 0
	for w := 1; w <= theWidth; w++ {
		a := In(x, w)
		for i, l := range a {
			if l != 2*(total+i+1) {
				t.Fatalf("In of %d bits behind %d inputs: %v", w, total, a)
			}
		}
		total += w
		if len(a) != w || x.Len() != total {
			t.Fatalf("In of %d bits: %v, and %d nodes", w, a, x.Len())
		}
	}
	for i, g := range x.Nodes() {
		if g != (api.Gate{A: -1, B: -1}) {
			t.Fatalf("node %d is no input: %v", i+1, g)
		}
	}
	for _, w := range wrongWidths() {
		if a := In(x, w); len(a) != 0 || x.Len() != total {
			t.Errorf("In(%d) = %v, and %d nodes", w, a, x.Len()-total)
		}
	}
}

func TestNumber(t *testing.T) {
	x := aig.New()
	for w := 1; w <= theWidth; w++ {
		x = aig.New()
		a := In(x, w)
		for _, n := range edges(w) {
			v := aig.Eval(x.Nodes(), plainBits(n, w))
			if got := Number(v, a); got != n {
				t.Fatalf("of %d bits: %d, not %d", w, got, n)
			}
			if got := Number(v, Not(x, a)); got != plainNot(n, w) {
				t.Fatalf("of %d bits, turned: %d, not %d", w, got, plainNot(n, w))
			}
		}
	}
	all := aig.Eval(x.Nodes(), slices.Repeat([]bool{true}, theWidth))
	handed := slices.Clone(all)
	for w := range 40 {
		want := 0
		if w <= theWidth {
			want = plainMod(-1, w)
		}
		for _, l := range []int{1, 2, 32} {
			if got := Number(all, slices.Repeat([]int{l}, w)); got != want {
				t.Errorf("%d bits of %d: %d", w, l, got)
			}
		}
	}
	if !slices.Equal(all, handed) {
		t.Error("Number turned what it was handed")
	}
	// What is no literal of the nodes is false.
	for at := range theWidth {
		for _, l := range wrong(theWidth) {
			a := slices.Repeat([]int{1}, theWidth)
			a[at] = l
			if got := Number(all, a); got != 1<<16-1-1<<at {
				t.Errorf("%v: %d", a, got)
			}
		}
	}
	for _, v := range [][]bool{nil, {}, {true}} {
		if Number(v, nil) != 0 || Number(v, []int{}) != 0 || Number(v, []int{0, 1, 4, 5}) != 2 {
			t.Errorf("of %v: %d, %d, %d", v, Number(v, nil), Number(v, []int{}), Number(v, []int{0, 1, 4, 5}))
		}
	}
}

// TestAllNumbers: words of inputs alone, of all numbers of small widths.
func TestAllNumbers(t *testing.T) {
	for w := 1; w <= 5; w++ {
		for _, k := range asks() {
			x := aig.New()
			c := x.In()
			a, b := In(x, w), In(x, w)
			told := k.tell(x, c, a, b)
			k.sizes(t, x, told, w)
			g := x.Nodes()
			for n := range 1 << (2 * w) {
				k.read(t, g, told, false, n>>w, plainMod(n, w), w)
				if k.takes {
					k.read(t, g, told, true, n>>w, plainMod(n, w), w)
				}
			}
		}
	}
}

// TestGreatNumbers: words of inputs alone, of each width.
func TestGreatNumbers(t *testing.T) {
	r := numbers(16)
	for w := 1; w <= theWidth; w++ {
		for _, k := range asks() {
			x := aig.New()
			c := x.In()
			a, b := In(x, w), In(x, w)
			told := k.tell(x, c, a, b)
			k.sizes(t, x, told, w)
			g := x.Nodes()
			for _, n := range edges(w) {
				for _, m := range edges(w) {
					k.read(t, g, told, (n+m)%2 == 0, n, m, w)
				}
			}
			for range 60 {
				n, m := r.pick(1<<w), r.pick(1<<w)
				k.read(t, g, told, r.pick(2) == 0, n, m, w)
				k.read(t, g, told, r.pick(2) == 0, n, n, w)
				// Of what is picked of all numbers hardly one is a shift, or divides.
				k.read(t, g, told, r.pick(2) == 0, n, plainMod(m, r.pick(w)+1), w)
			}
		}
	}
}

// TestConstants: of constants alone constants are told, and nothing is made.
func TestConstants(t *testing.T) {
	x := aig.New()
	ask := func(w, n, m int) {
		for _, k := range asks() {
			for c := range 2 {
				told := k.tell(x, c, Const(n, w), Const(m, w))
				var want [][]int
				for _, number := range k.reckon(c == 1, n, m, w) {
					want = append(want, Const(number, k.width(w)))
				}
				if !same(told, want) {
					t.Fatalf("%s of %d bits, %d, %d, %d: %v, not %v", k.name, w, c, n, m, told, want)
				}
			}
		}
	}
	for w := 1; w <= 4; w++ {
		for n := range 1 << w {
			for m := range 1 << w {
				ask(w, n, m)
			}
		}
	}
	for w := 5; w <= theWidth; w++ {
		for _, n := range edges(w) {
			for _, m := range edges(w) {
				ask(w, n, m)
			}
		}
	}
	if x.Len() != 0 {
		t.Errorf("%d nodes were made", x.Len())
	}
}

// TestOneConstant: one word is a constant, the other one is of inputs.
func TestOneConstant(t *testing.T) {
	r := numbers(7)
	for w := 1; w <= theWidth; w++ {
		for _, k := range asks() {
			for _, n := range edges(w) {
				x := aig.New()
				c := x.In()
				a, b := In(x, w), In(x, w)
				first := k.tell(x, c, Const(n, w), b)
				second := k.tell(x, c, a, Const(n, w))
				k.sizes(t, x, first, w)
				k.sizes(t, x, second, w)
				g := x.Nodes()
				for _, m := range []int{0, n, r.pick(1 << w), 1<<w - 1} {
					k.read(t, g, first, true, n, m, w)
					k.read(t, g, second, false, m, n, w)
				}
			}
		}
	}
}
