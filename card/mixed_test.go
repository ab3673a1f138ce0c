package card

import (
	"slices"
	"sync"
	"testing"

	"fathom/aig"
	"fathom/api"
)

// twin is a graph of six inputs, another one of which the same is asked, and what each literal is in each of the 64 ways.
type twin struct {
	t      *testing.T
	x, y   *aig.Aig
	tables tables
	// pool is literals of which lists are made.
	pool []int
}

func newTwin(t *testing.T) *twin {
	w := &twin{t: t, x: aig.New(), y: aig.New(), pool: []int{0, 1}}
	for range tableIns {
		l := w.x.In()
		w.y.In()
		w.pool = append(w.pool, l, l^1)
	}
	w.tables.more(w.x.Nodes())
	return w
}

// list is one of literals that are picked of the pool.
func (w *twin) list(r *numbers, n int) []int {
	l := make([]int, n)
	for i := range l {
		l[i] = w.pool[r.pick(len(w.pool))]
	}
	return l
}

// ask asks both all calls, and holds what is told against what is reckoned, in all ways.
func (w *twin) ask(l, ks []int) answers {
	w.t.Helper()
	handed, ahead := slices.Clone(l), w.x.Nodes()
	told := tellAll(w.x, l, ks)
	g := w.x.Nodes()
	if !slices.Equal(g[:len(ahead)], ahead) {
		w.t.Fatalf("of %v: nodes were turned", l)
	}
	if like := tellAll(w.y, l, ks); !told.like(like) || !slices.Equal(g, w.y.Nodes()) {
		w.t.Fatalf("of %v: %v, and of a like graph %v", l, told, like)
	}
	if again := tellAll(w.x, l, ks); !told.like(again) || w.x.Len() != len(g) {
		w.t.Fatalf("of %v: %v, and then %v, of %d and %d nodes", l, told, again, len(g), w.x.Len())
	}
	if !slices.Equal(l, handed) {
		w.t.Fatalf("%v was handed, and %v is there", handed, l)
	}
	told.formed(w.t, w.x, l)
	w.tables.more(g)
	for way := range tableWays {
		told.right(w.t, l, w.tables.way(way))
	}
	return told
}

// TestAllLists: all short lists of constants, two inputs, their "and", and the negations of these.
func TestAllLists(t *testing.T) {
	w := newTwin(t)
	l := w.x.And(2, 4)
	w.y.And(2, 4)
	pool := []int{0, 1, 2, 3, 4, 5, l, l ^ 1}
	lists := [][]int{{}}
	for at := 0; at < len(lists); at++ {
		list := lists[at]
		w.ask(list, []int{-1, 0, 1, len(list) - 1, len(list), len(list) + 1, 4, 5})
		if len(list) < 3 {
			for _, k := range pool {
				lists = append(lists, append(slices.Clone(list), k))
			}
		}
	}
	if want := 1 + 8 + 64 + 512; len(lists) != want {
		t.Errorf("%d lists, not %d", len(lists), want)
	}
}

// TestOftenThere: one literal that stands there several times, it and its negation, each so often.
func TestOftenThere(t *testing.T) {
	w := newTwin(t)
	for n := range 9 {
		for m := range 9 {
			for _, pair := range [][2]int{{2, 3}, {2, 4}, {2, 5}, {2, 0}, {3, 1}, {0, 1}} {
				l := slices.Concat(slices.Repeat(pair[:1], n), slices.Repeat(pair[1:], m))
				w.ask(l, []int{-1, 0, 1, n, n + 1, m, m + 1, n + m, n + m + 1})
			}
		}
	}
	for _, n := range []int{theCounted - 1, theCounted} {
		for _, l := range []int{0, 1, 2, 3} {
			w.ask(slices.Repeat([]int{l}, n), near(n))
		}
		w.ask(slices.Repeat([]int{2, 3}, n/2), near(n/2*2))
		w.ask(slices.Repeat([]int{2, 5, 6, 1}, n/4), near(n/4*4))
	}
}

// TestMixed: lists of constants, inputs, and what was told ahead, of each length.
func TestMixed(t *testing.T) {
	r := numbers(3)
	for n := range theCounted + 1 {
		for round := range 2 {
			w := newTwin(t)
			for range 3 {
				told := w.ask(w.list(&r, n), some(&r, n))
				if round > 0 {
					w.pool = append(w.pool, told.word...)
					w.pool = append(w.pool, told.judged[2]...)
				}
			}
		}
	}
}

// TestOtherGraphs: of a graph whose nodes came by Load, also such as no making gives.
func TestOtherGraphs(t *testing.T) {
	g := []api.Gate{{A: -1, B: -1}, {A: -1, B: -1}, {A: 4, B: 2}, {A: 2, B: 4}, {A: 0, B: 1}, {A: 8, B: 8}, {A: 7, B: 1}}
	r := numbers(23)
	for range 200 {
		x, e := aig.Load(g)
		if e != api.OK {
			t.Fatalf("Load: %d", e)
		}
		l := make([]int, r.pick(8))
		for i := range l {
			l[i] = r.pick(2*len(g) + 2)
		}
		a := tellAll(x, l, near(len(l)))
		a.formed(t, x, l)
		if !slices.Equal(x.Nodes()[:len(g)], g) {
			t.Fatalf("of %v: nodes were turned", l)
		}
		for way := range 4 {
			a.right(t, l, valued(x, []bool{way&1 == 1, way&2 == 2}))
		}
	}
}

// TestAgree: by the graph itself, what the calls tell of the same literals.
func TestAgree(t *testing.T) {
	for n := 1; n <= 5; n++ {
		x, l := inputs(n)
		turned := make([]int, n)
		for i, k := range l {
			turned[i] = k ^ 1
		}
		var agree []int
		for k := range n + 1 {
			least, most, just := Least(x, l, k), Most(x, l, k), Just(x, l, k)
			agree = append(agree, x.Xor(x.And(least, most), just)^1)
			agree = append(agree, x.Xor(Most(x, l, k-1), least))
			agree = append(agree, x.Xor(Least(x, turned, n-k), most)^1)
		}
		all := x.All(agree)
		for way := range 1 << n {
			ins := make([]bool, n)
			for i := range ins {
				ins[i] = way>>i&1 == 1
			}
			if !valued(x, ins)(all) {
				t.Fatalf("of %d, in way %d", n, way)
			}
		}
	}
}

// TestNew: what is told is new memory, and what lies behind the list that is handed stays.
func TestNew(t *testing.T) {
	x, ins := inputs(theCounted)
	for n := range theCounted + 1 {
		for _, pool := range [][]int{ins, make([]int, theCounted), slices.Repeat([]int{1, 2}, theCounted/2)} {
			room := append(slices.Clone(pool[:n]), 9, 8, 7, 6)
			kept := slices.Clone(room)
			l := room[:n]
			word, clauses := Count(x, l), One(x, l)
			for _, j := range judges() {
				j.tell(x, l, n/2)
			}
			if !slices.Equal(room, kept) {
				t.Fatalf("%v was handed, and %v is there", kept, room)
			}
			spoil(t, word, clauses)
			if !slices.Equal(room, kept) {
				t.Fatalf("what is told of %v is what was handed", kept)
			}
			again, clausesAgain := Count(x, l), One(x, l)
			spoil(t, word, clauses)
			valid := answers{word: again, clauses: clausesAgain}
			valid.formed(t, x, l)
			valid.right(t, l, valued(x, slices.Repeat([]bool{true, false, false}, 22)))
		}
	}
}

// spoil writes over what was told, also beyond its lists' ends, and fails if that turns another list of it.
func spoil(t *testing.T, word []int, clauses [][]int) {
	t.Helper()
	lists := append(slices.Clone(clauses), word)
	for i, list := range lists {
		list = list[:cap(list)]
		for at := range list {
			list[at] = -7 - i
		}
	}
	for i, list := range lists {
		for _, l := range list {
			if l != -7-i {
				t.Fatal("two lists share memory")
			}
		}
	}
}

// refuses fails unless all calls tell none, and make nothing.
func refuses(t *testing.T, x *aig.Aig, l, ks []int) {
	t.Helper()
	nodes, handed := x.Len(), slices.Clone(l)
	if a := tellAll(x, l, ks); !a.isNone() {
		t.Fatalf("of %d literals, %v: %v", len(l), l, a)
	}
	if x.Len() != nodes {
		t.Fatalf("of %v nodes were made", l)
	}
	if !slices.Equal(l, handed) {
		t.Fatalf("%v was handed, and %v is there", handed, l)
	}
}

// TestWrongLiterals: a number that is no literal, at each place.
func TestWrongLiterals(t *testing.T) {
	for _, n := range []int{1, 2, 3, 4, 7, theCounted - 1, theCounted} {
		x, ins := inputs(n)
		for _, right := range [][]int{ins, make([]int, n), slices.Repeat([]int{1}, n)} {
			for at := range n {
				for _, k := range wrong(n) {
					l := slices.Clone(right)
					l[at] = k
					refuses(t, x, l, []int{-1, 0, 1, n, n + 1})
					if at == 0 && n < 4 {
						refuses(t, x, l, near(n))
					}
				}
			}
		}
		for _, k := range wrong(n) {
			refuses(t, x, slices.Repeat([]int{k}, n), []int{-1, 0, 1, n, n + 1})
		}
		// What the greatest one is turns with the graph.
		l := append(slices.Clone(ins[:n-1]), x.In()+1)
		a := tellAll(x, l, near(n))
		a.formed(t, x, l)
	}
}

// TestTooMany: more literals than are counted.
func TestTooMany(t *testing.T) {
	x, ins := inputs(2 * theCounted)
	for n := theCounted - 1; n <= 2*theCounted; n++ {
		for _, l := range [][]int{ins[:n], make([]int, n), slices.Repeat([]int{1}, n), slices.Repeat([]int{2}, n), slices.Repeat([]int{-1}, n)} {
			mayBe := n <= theCounted && l[0] >= 0
			if !mayBe {
				refuses(t, x, l, []int{-1, 0, 1, 2, n - 1, n, n + 1})
				continue
			}
			a := tellAll(x, l, near(n))
			a.formed(t, x, l)
		}
	}
	for _, n := range []int{256, 1<<16 - 1, 1 << 16, 1<<16 + 3, 1 << 20} {
		refuses(t, x, make([]int, n), far())
		refuses(t, x, slices.Repeat([]int{3}, n), []int{0, n})
	}
}

// TestNobodys: graphs that New or Load did not give.
func TestNobodys(t *testing.T) {
	x, _ := inputs(1)
	copied := *x
	for _, nobody := range []*aig.Aig{nil, {}, new(aig.Aig), &copied} {
		for _, l := range [][]int{nil, {}, {0}, {1}, {2}, {-1}, {0, 1, 0}, {2, 3}, make([]int, theCounted), make([]int, theCounted+1)} {
			refuses(t, nobody, l, near(len(l)))
		}
	}
	if x.Len() != 1 {
		t.Errorf("%d nodes", x.Len())
	}
}

// manyInputs is as many inputs as a graph has nodes at most, made once, as it takes long.
var manyInputs = sync.OnceValue(func() []api.Gate {
	return slices.Repeat([]api.Gate{{A: -1, B: -1}}, theGates)
})

// roomy is a graph of inputs alone, with room for just so many nodes more.
func roomy(t *testing.T, room int) *aig.Aig {
	t.Helper()
	x, e := aig.Load(manyInputs()[:theGates-room])
	if e != api.OK {
		t.Fatalf("Load: %d", e)
	}
	return x
}

// call is one of the calls that make nodes, and, of how many are true, whether what it told is right.
type call struct {
	name  string
	tell  func(x *aig.Aig, l []int) []int
	right func(n int, told []bool) bool
}

// calls is all of them, of a list of so many literals; of those of a number there is one for each number.
func calls(n int) []call {
	list := []call{{"Count", Count, func(n int, told []bool) bool { return plainNumber(told) == n }}}
	for _, j := range judges() {
		for k := range n + 1 {
			list = append(list, call{
				name:  j.name,
				tell:  func(x *aig.Aig, l []int) []int { return []int{j.tell(x, l, k)} },
				right: func(n int, told []bool) bool { return told[0] == j.reckon(n, k) },
			})
		}
	}
	return list
}

// lacks tells whether none, or -1, was told.
func lacks(told []int) bool {
	return len(told) == 0 || len(told) == 1 && told[0] == -1
}

// TestFull: none, or -1, is told where there is no room for what is to be made; with just enough of it, what is reckoned.
func TestFull(t *testing.T) {
	for _, n := range []int{2, 3, 4} {
		for _, c := range calls(n) {
			x, l := inputs(n)
			c.tell(x, l)
			needs := x.Len() - n
			for room := range needs {
				if n == 4 && room > 1 && room < needs-2 && room%5 != 0 {
					continue
				}
				if told := c.tell(roomy(t, room), l); !lacks(told) {
					t.Fatalf("%s of %d inputs needs %d nodes, has room for %d, and tells %v", c.name, n, needs, room, told)
				}
			}
			c.enough(t, n, needs)
		}
	}
}

// enough fails unless a call about so many inputs, with room for just so many nodes as it needs, tells what is reckoned.
func (c call) enough(t *testing.T, n, needs int) {
	t.Helper()
	x := roomy(t, needs)
	_, l := inputs(n)
	told := c.tell(x, l)
	if again := c.tell(x, l); lacks(told) || !slices.Equal(told, again) {
		t.Fatalf("%s of %d inputs, with just enough room: %v, and then %v", c.name, n, told, again)
	}
	for trues := range n + 1 {
		ins := slices.Concat(slices.Repeat([]bool{true}, trues), make([]bool, n-trues))
		if !c.right(trues, valued(x, ins).all(told)) {
			t.Fatalf("%s of %d inputs, of which %d are true, with just enough room: %v", c.name, n, trues, told)
		}
	}
}

// TestFullMany: of as many as are counted, with no room, some, and nearly enough.
func TestFullMany(t *testing.T) {
	x, l := inputs(theCounted)
	Count(x, l)
	needs := x.Len() - theCounted
	for _, room := range []int{0, 1, needs / 2, needs - 8, needs - 1} {
		short := roomy(t, room)
		if told := Count(short, l); len(told) != 0 {
			t.Errorf("Count needs %d nodes, has room for %d, and tells %v", needs, room, told)
		}
		for _, k := range []int{1, 2, theCounted / 2, theCounted - 1} {
			if Least(short, l, k) != -1 || Most(short, l, k) != -1 || Just(short, l, k) != -1 {
				t.Errorf("room for %d, and of %d: %d, %d, %d", room, k, Least(short, l, k), Most(short, l, k), Just(short, l, k))
			}
		}
	}
	if told := Count(roomy(t, needs), l); len(told) != plainEnough(theCounted) {
		t.Errorf("Count needs %d nodes, has room for them, and tells %v", needs, told)
	}
}

// TestFullTells: a full graph is told of what needs no node.
func TestFullTells(t *testing.T) {
	full := roomy(t, 0)
	_, l := inputs(5)
	clauses := One(full, l)
	for way := range 1 << 5 {
		v := view(func(l int) bool { return l == 1 || l >= 2 && way>>(l/2-1)&1 != l%2 })
		if got, n := v.holds(clauses), plainCount(v.all(l)); got != (n == 1) {
			t.Fatalf("One of %d inputs that are true: %v", n, got)
		}
	}
	for _, l := range [][]int{nil, {7}, {1, 0, 1}, {0, 5, 0}, make([]int, theCounted)} {
		a := tellAll(full, l, near(len(l)))
		a.formed(t, full, l)
		// All inputs are false.
		a.right(t, l, func(l int) bool { return l%2 == 1 })
	}
	for _, j := range judges() {
		for _, k := range far() {
			want := 0
			if j.reckon(len(l), k) {
				want = 1
			}
			if got := j.tell(full, l, k); got != want {
				t.Errorf("%s of %d inputs and %d: %d, not %d", j.name, len(l), k, got, want)
			}
		}
	}
	if Least(full, l, 0) != 1 || Least(full, l, 6) != 0 || Most(full, l, 5) != 1 {
		t.Errorf("of 5 inputs: %d, %d, %d", Least(full, l, 0), Least(full, l, 6), Most(full, l, 5))
	}
	if full.Len() != theGates {
		t.Errorf("%d nodes", full.Len())
	}
}
