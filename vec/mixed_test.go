package vec

import (
	"slices"
	"testing"

	"fathom/aig"
	"fathom/api"
)

// twin is a graph of six inputs, another one of which the same is asked, and what each literal is in each of the 64 ways.
type twin struct {
	t      *testing.T
	x, y   *aig.Aig
	tables tables
	// pool is literals of which words are made.
	pool []int
}

func newTwin(t *testing.T) *twin {
	w := &twin{t: t, x: aig.New(), y: aig.New(), pool: []int{0, 1}}
	for range tableIns {
		l := w.x.In()
		w.y.In()
		w.pool = append(w.pool, l, l^1)
	}
	w.tables.more(w.x.Nodes())
	return w
}

// word is one of literals that are picked of the pool.
func (w *twin) word(r *numbers, width int) []int {
	a := make([]int, width)
	for i := range a {
		a[i] = w.pool[r.pick(len(w.pool))]
	}
	return a
}

// ask asks both the same, and holds what is told against what is reckoned, in all ways.
func (w *twin) ask(k ask, c int, a, b []int) [][]int {
	w.t.Helper()
	handedA, handedB, ahead := slices.Clone(a), slices.Clone(b), w.x.Nodes()
	told := k.tell(w.x, c, a, b)
	g := w.x.Nodes()
	if !slices.Equal(g[:len(ahead)], ahead) {
		w.t.Fatalf("%s turned nodes", k.name)
	}
	if like := k.tell(w.y, c, a, b); !same(told, like) || !slices.Equal(g, w.y.Nodes()) {
		w.t.Fatalf("%s of %d, %v, %v: %v, and of a like graph %v", k.name, c, a, b, told, like)
	}
	if again := k.tell(w.x, c, a, b); !same(told, again) || w.x.Len() != len(g) {
		w.t.Fatalf("%s of %d, %v, %v: %v, and then %v, of %d and %d nodes", k.name, c, a, b, told, again, len(g), w.x.Len())
	}
	if !slices.Equal(a, handedA) || !slices.Equal(b, handedB) {
		w.t.Fatalf("%s turned what it was handed: %v, %v", k.name, handedA, handedB)
	}
	k.sizes(w.t, w.x, told, len(a))
	w.tables.more(g)
	w.holds(k, told, c, a, b)
	return told
}

// holds fails unless what was told has the numbers that are reckoned, in all ways.
func (w *twin) holds(k ask, told [][]int, c int, a, b []int) {
	w.t.Helper()
	for way := range tableWays {
		n, m := w.tables.number(a, way), w.tables.number(b, way)
		want := k.reckon(w.tables.of(c)>>way&1 == 1, n, m, len(a))
		for i := range told {
			if got := w.tables.number(told[i], way); got != want[i] {
				w.t.Fatalf("%s of %d, %v, %v, numbers %d and %d: %d, not %d", k.name, c, a, b, n, m, got, want[i])
			}
		}
	}
}

// TestAllWords: all words of one and two bits of constants, two inputs, and their negations, so that they bear one literal at several bits, or a literal and its negation.
func TestAllWords(t *testing.T) {
	pool := []int{0, 1, 2, 3, 4, 5}
	var words [][]int
	for _, l := range pool {
		words = append(words, []int{l})
		for _, m := range pool {
			words = append(words, []int{l, m})
		}
	}
	for _, k := range asks() {
		w := newTwin(t)
		for _, a := range words {
			for _, b := range words {
				if len(a) == len(b) {
					w.ask(k, 2, a, b)
				}
			}
		}
	}
}

// TestMixed: words of constants, inputs, and what was told ahead, of each width, one call behind the other.
func TestMixed(t *testing.T) {
	r := numbers(3)
	for width := 1; width <= theWidth; width++ {
		for round := range 3 {
			w := newTwin(t)
			for _, k := range asks() {
				a, b := w.word(&r, width), w.word(&r, width)
				c := w.pool[r.pick(len(w.pool))]
				for _, told := range w.ask(k, c, a, b) {
					w.ask(k, c, a, a)
					if round > 0 {
						w.pool = append(w.pool, told...)
					}
				}
			}
		}
	}
}

// TestDivides: the quotient times b, and the rest, is a, as the graph itself tells.
func TestDivides(t *testing.T) {
	r := numbers(11)
	for width := 1; width <= theWidth; width++ {
		x := aig.New()
		a, b := In(x, width), In(x, width)
		quotient, rest := Div(x, a, b)
		is := Eq(x, Add(x, Mul(x, quotient, b), rest), a)
		less := Less(x, rest, b)
		some := Any(x, b)
		if !x.Is(is) || !x.Is(less) || !x.Is(some) {
			t.Fatalf("of %d bits: %d, %d, %d", width, is, less, some)
		}
		g := x.Nodes()
		for range 200 {
			n, m := r.pick(1<<width), plainMod(r.pick(1<<width), r.pick(width+1))
			v := aig.Eval(g, slices.Concat(plainBits(n, width), plainBits(m, width)))
			if !aig.Value(v, is) {
				t.Fatalf("of %d bits, %d by %d: the quotient %d, the rest %d", width, n, m, Number(v, quotient), Number(v, rest))
			}
			if aig.Value(v, less) != (m > 0) || aig.Value(v, some) != (m > 0) {
				t.Fatalf("of %d bits, %d by %d: whether the rest is less is %v", width, n, m, aig.Value(v, less))
			}
		}
	}
}

// TestSame: of one word as both operands, without a guess at the inputs.
func TestSame(t *testing.T) {
	x := aig.New()
	for width := 1; width <= theWidth; width++ {
		a := In(x, width)
		if !slices.Equal(And(x, a, a), a) || !slices.Equal(Or(x, a, a), a) || !slices.Equal(Xor(x, a, a), Const(0, width)) {
			t.Errorf("of %d bits: %v, %v, %v", width, And(x, a, a), Or(x, a, a), Xor(x, a, a))
		}
		if Eq(x, a, a) != 1 || Eq(x, a, Not(x, a)) != 0 {
			t.Errorf("of %d bits: Eq is %d, of the negation %d", width, Eq(x, a, a), Eq(x, a, Not(x, a)))
		}
		c := x.In()
		if got := Ite(x, c, a, a); !slices.Equal(got, a) {
			t.Errorf("of %d bits: Ite is %v", width, got)
		}
	}
}

// TestNew: what is told is new memory.
func TestNew(t *testing.T) {
	x := aig.New()
	c := x.In()
	for _, width := range []int{1, 2, 3, theWidth} {
		a := In(x, width)
		// By these a call has hardly a thing to do.
		others := [][]int{a, Const(0, width), Const(1, width), Const(-1, width), In(x, width)}
		for _, b := range others {
			for _, k := range asks() {
				for _, c := range []int{0, 1, c} {
					fresh(t, x, k, c, a, b)
					fresh(t, x, k, c, b, a)
				}
			}
		}
	}
}

// fresh fails unless a call's answer shares nothing with what it was handed, and no list of it with another.
func fresh(t *testing.T, x *aig.Aig, k ask, c int, a, b []int) {
	t.Helper()
	handedA, handedB := slices.Clone(a), slices.Clone(b)
	told := k.tell(x, c, a, b)
	var kept [][]int
	for _, word := range told {
		kept = append(kept, slices.Clone(word))
	}
	for i, word := range told {
		if len(word) == 0 {
			t.Fatalf("%s told none", k.name)
		}
		for at := range word {
			word[at] = -7
		}
		for j := i + 1; j < len(told); j++ {
			if !slices.Equal(told[j], kept[j]) {
				t.Fatalf("%s: two lists share memory", k.name)
			}
		}
		_ = append(word, -8)
	}
	if !slices.Equal(a, handedA) || !slices.Equal(b, handedB) {
		t.Fatalf("%s: what is told is what was handed", k.name)
	}
	if again := k.tell(x, c, a, b); !same(again, kept) {
		t.Fatalf("%s: %v, and then %v", k.name, kept, again)
	}
}

// TestWrongLiterals: a number that is no literal, at each bit.
func TestWrongLiterals(t *testing.T) {
	x := aig.New()
	for range 40 {
		x.In()
	}
	for _, k := range asks() {
		for _, width := range []int{1, 2, 5, theWidth} {
			right := Const(5, width)
			for at := range width {
				for _, l := range wrong(40) {
					a := slices.Clone(right)
					a[at] = l
					refuses(t, x, k, 2, a, right)
					refuses(t, x, k, 2, a, a)
					if k.operands > 1 {
						refuses(t, x, k, 2, right, a)
					}
				}
			}
			for _, c := range wrong(40) {
				if k.takes {
					refuses(t, x, k, c, right, right)
					refuses(t, x, k, c, In(x, 0), right)
				}
			}
		}
	}
}

// refuses fails unless a call tells none, and makes nothing.
func refuses(t *testing.T, x *aig.Aig, k ask, c int, a, b []int) {
	t.Helper()
	nodes := x.Len()
	handedA, handedB := slices.Clone(a), slices.Clone(b)
	if told := k.tell(x, c, a, b); !k.isNone(told) {
		t.Fatalf("%s of %d, %v, %v: %v", k.name, c, a, b, told)
	}
	if x.Len() != nodes {
		t.Fatalf("%s of %d, %v, %v made nodes", k.name, c, a, b)
	}
	if !slices.Equal(a, handedA) || !slices.Equal(b, handedB) {
		t.Fatalf("%s turned what it was handed", k.name)
	}
}

// TestWrongWidths: lists without literals, with too many, and words of two widths.
func TestWrongWidths(t *testing.T) {
	x := aig.New()
	l := x.In()
	for _, k := range asks() {
		for n := range 36 {
			for m := range 36 {
				mayBe := 1 <= n && n <= theWidth && (k.operands == 1 || n == m)
				if !mayBe {
					refuses(t, x, k, l, slices.Repeat([]int{l}, n), slices.Repeat([]int{l}, m))
				}
			}
		}
		for _, a := range [][]int{nil, {}, {l}} {
			for _, b := range [][]int{nil, {}} {
				if k.operands > 1 || len(a) == 0 {
					refuses(t, x, k, l, a, b)
				}
			}
		}
		refuses(t, x, k, l, make([]int, 1<<16), make([]int, 1<<16))
	}
}

// TestNobodys: graphs that New or Load did not give.
func TestNobodys(t *testing.T) {
	x := aig.New()
	x.In()
	copied := *x
	for _, nobody := range []*aig.Aig{nil, {}, new(aig.Aig), &copied} {
		for _, k := range asks() {
			for _, a := range [][]int{nil, {}, {0}, {1}, {2}, {-1}, Const(5, 3), Const(5, theWidth), make([]int, theWidth+1)} {
				for _, c := range []int{-1, 0, 1, 2} {
					if told := k.tell(nobody, c, a, a); !k.isNone(told) {
						t.Errorf("%s of %d, %v: %v", k.name, c, a, told)
					}
				}
				if e := Check(nobody, a); e != api.ErrArg {
					t.Errorf("Check of %v: %d", a, e)
				}
			}
		}
		for _, w := range append(wrongWidths(), 1, 2, theWidth) {
			if a := In(nobody, w); len(a) != 0 {
				t.Errorf("In(%d) = %v", w, a)
			}
		}
	}
	if x.Len() != 1 {
		t.Errorf("%d nodes", x.Len())
	}
}

// roomy is a graph of inputs alone, with room for just so many nodes more.
func roomy(t *testing.T, room int) *aig.Aig {
	t.Helper()
	x, e := aig.Load(slices.Repeat([]api.Gate{{A: -1, B: -1}}, theGates-room))
	if e != api.OK {
		t.Fatalf("Load: %d", e)
	}
	return x
}

// TestFullIn: a word of inputs is told where there is room for all of it.
func TestFullIn(t *testing.T) {
	x := roomy(t, theWidth+4)
	if a := In(x, theWidth); len(a) != theWidth {
		t.Fatalf("room for %d, and In tells %v", theWidth+4, a)
	}
	for w := 5; w <= theWidth; w++ {
		if a := In(x, w); len(a) != 0 || x.Len() != theGates-4 {
			t.Fatalf("room for 4, and In(%d) tells %v: %d nodes", w, a, x.Len())
		}
	}
	if a := In(x, 4); !slices.Equal(a, []int{2*theGates - 6, 2*theGates - 4, 2*theGates - 2, 2 * theGates}) {
		t.Fatalf("room for 4, and In(4) tells %v", a)
	}
	for w := 1; w <= theWidth; w++ {
		if a := In(x, w); len(a) != 0 || x.Len() != theGates {
			t.Fatalf("no room, and In(%d) tells %v: %d nodes", w, a, x.Len())
		}
	}
}

// TestFull: none is told of what there is no room for; what needs none is told.
func TestFull(t *testing.T) {
	const width = 3
	a, b, c := []int{2, 4, 6}, []int{8, 10, 12}, 14
	full := roomy(t, 0)
	for _, k := range asks() {
		x := aig.New()
		In(x, 7)
		k.tell(x, c, a, b)
		needs := x.Len() - 7
		told := k.tell(full, c, a, b)
		if needs == 0 {
			k.sizes(t, full, told, width)
		} else if !k.isNone(told) {
			t.Fatalf("%s of a full graph: %v", k.name, told)
		}
		for room := range needs {
			if room > 2 && room < needs-2 && room%9 != 0 {
				continue
			}
			short := roomy(t, room)
			if told := k.tell(short, c, a, b); !k.isNone(told) {
				t.Fatalf("%s needs %d nodes, has room for %d, and tells %v", k.name, needs, room, told)
			}
		}
		k.enough(t, needs, c, a, b)
		// Of constants nothing is to be made.
		told = k.tell(full, 1, Const(6, width), Const(5, width))
		for i, n := range k.reckon(true, 6, 5, width) {
			if !slices.Equal(told[i], Const(n, k.width(width))) {
				t.Fatalf("%s of constants of a full graph: %v", k.name, told)
			}
		}
	}
	if full.Len() != theGates {
		t.Errorf("%d nodes", full.Len())
	}
}

// enough fails unless a call with room for just so many nodes as it needs tells what is reckoned.
func (k ask) enough(t *testing.T, needs, c int, a, b []int) {
	t.Helper()
	x := roomy(t, needs)
	told := k.tell(x, c, a, b)
	k.sizes(t, x, told, len(a))
	if again := k.tell(x, c, a, b); !same(told, again) {
		t.Fatalf("%s of what is full now: %v, and then %v", k.name, told, again)
	}
	v := aig.Eval(x.Nodes(), []bool{true, false, true, true, true, false, true})
	for i, n := range k.reckon(true, 5, 3, len(a)) {
		if got := Number(v, told[i]); got != n {
			t.Fatalf("%s, with just enough room: %d, not %d", k.name, got, n)
		}
	}
}
