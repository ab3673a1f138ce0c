package arena

import (
	"math"
	"slices"
	"testing"

	"fathom/api"
)

const top = api.MaxVar

// wide is a clause of n literals, of the variables from first on.
func wide(first, n int) []int {
	c := make([]int, n)
	for i := range c {
		c[i] = first + i
	}
	return c
}

// noClauses is lists that are no clauses.
func noClauses() [][]int {
	return [][]int{
		{0}, {1, 0}, {0, 1}, {1, 2, 0, 3},
		{top + 1}, {-top - 1}, {1, top + 1}, {math.MaxInt}, {math.MinInt}, {1, math.MinInt, 2},
		wide(1, api.MaxWide+1), slices.Repeat([]int{1}, api.MaxWide+1),
	}
}

// added is an arena of these clauses.
func added(t *testing.T, clauses ...[]int) *Arena {
	t.Helper()
	a := New()
	for _, c := range clauses {
		add(t, a, c)
	}
	return a
}

// add adds a clause that fits; its place.
func add(t *testing.T, a *Arena, c []int) int {
	t.Helper()
	at, e := a.Add(c)
	if e != api.OK {
		t.Fatalf("Add of %d literals: %d", len(c), e)
	}
	return at
}

// drop drops a clause that there is.
func drop(t *testing.T, a *Arena, at int) {
	t.Helper()
	if e := a.Drop(at); e != api.OK {
		t.Fatalf("Drop(%d): %d", at, e)
	}
}

// holds fails unless the clause at a place is this one.
func holds(t *testing.T, a *Arena, at int, want []int) {
	t.Helper()
	if c, ok := a.Get(at); !ok || !slices.Equal(c, want) {
		t.Errorf("Get(%d) = %v, %v; not %v", at, c, ok, want)
	}
}

// none fails if a place has a clause by any call.
func none(t *testing.T, a *Arena, at int) {
	t.Helper()
	if c, ok := a.Get(at); ok || len(c) != 0 {
		t.Errorf("Get(%d) = %v, %v", at, c, ok)
	}
	if e := a.Drop(at); e != api.ErrNone {
		t.Errorf("Drop(%d): %d", at, e)
	}
	for _, i := range []int{-1, 0, 1} {
		if e := a.Swap(at, i, 0); e != api.ErrNone {
			t.Errorf("Swap(%d, %d, 0): %d", at, i, e)
		}
	}
}

// tells fails unless this is what the arena tells of itself.
func tells(t *testing.T, a *Arena, places []int, words, waste int) {
	t.Helper()
	if got := a.Places(); !slices.Equal(got, places) {
		t.Errorf("Places() = %v; not %v", got, places)
	}
	if got := a.Count(); got != len(places) {
		t.Errorf("Count() = %d; not %d", got, len(places))
	}
	if got := a.Words(); got != words {
		t.Errorf("Words() = %d; not %d", got, words)
	}
	if got := a.Waste(); got != waste {
		t.Errorf("Waste() = %d; not %d", got, waste)
	}
}

// packs fails unless these are the moves.
func packs(t *testing.T, a *Arena, want ...api.Move) {
	t.Helper()
	if got := a.Pack(); !slices.Equal(got, want) {
		t.Errorf("Pack() = %v; not %v", got, want)
	}
}

func TestNew(t *testing.T) {
	a, b := New(), New()
	tells(t, a, nil, 0, 0)
	none(t, a, 0)
	add(t, a, []int{1})
	tells(t, b, nil, 0, 0)
	none(t, b, 0)
}

func TestAdd(t *testing.T) {
	a := New()
	clauses := [][]int{{1, 2}, {3}, nil, {-top, top, -top}, {}, wide(1, api.MaxWide), {5, -5, 5}, {4}, wide(top-api.MaxWide+1, api.MaxWide)}
	places := []int{0, 4, 7, 9, 14, 16, 4114, 4119, 4122}
	for i, c := range clauses {
		if at, e := a.Add(c); e != api.OK || at != places[i] {
			t.Fatalf("clause %d: %d, %d", i, at, e)
		}
		tells(t, a, places[:i+1], places[i]+2+len(c), 0)
	}
	for i, c := range clauses {
		holds(t, a, places[i], c)
	}
}

func TestAddOfNoClause(t *testing.T) {
	a := added(t, []int{1, 2})
	for i, c := range noClauses() {
		if at, e := a.Add(c); e != api.ErrArg || at != 0 {
			t.Errorf("no clause %d: %d, %d", i, at, e)
		}
	}
	tells(t, a, []int{0}, 4, 0)
	holds(t, a, 0, []int{1, 2})
	if at := add(t, a, []int{3}); at != 4 {
		t.Errorf("the next clause at %d", at)
	}
}

// nearlyFull is an arena with room for so many words, less than a widest clause takes, and its clauses' places.
func nearlyFull(t *testing.T, room int) (*Arena, []int) {
	t.Helper()
	a := New()
	var places []int
	for api.MaxWords-a.Words()-room >= api.MaxWide+2 {
		places = append(places, add(t, a, wide(len(places)+1, api.MaxWide)))
	}
	if rest := api.MaxWords - a.Words() - room; rest > 0 {
		places = append(places, add(t, a, wide(1, rest-2)))
	}
	if got := api.MaxWords - a.Words(); got != room {
		t.Fatalf("room for %d words", got)
	}
	return a, places
}

func TestFull(t *testing.T) {
	full := func(a *Arena, c []int) {
		t.Helper()
		words := a.Words()
		if at, e := a.Add(c); e != api.ErrFull || at != 0 {
			t.Errorf("Add of %d literals to %d words: %d, %d", len(c), words, at, e)
		}
		if a.Words() != words {
			t.Errorf("%d words, then %d", words, a.Words())
		}
	}
	a, places := nearlyFull(t, 5)
	full(a, []int{1, 2, 3, 4})
	full(a, wide(1, api.MaxWide))
	if at := add(t, a, []int{1, 2, 3}); at != api.MaxWords-5 {
		t.Errorf("the last clause at %d", at)
	}
	tells(t, a, append(places, api.MaxWords-5), api.MaxWords, 0)
	full(a, nil)
	full(a, []int{1})
	for i, c := range noClauses() {
		if at, e := a.Add(c); e != api.ErrArg || at != 0 {
			t.Errorf("no clause %d, of a full arena: %d, %d", i, at, e)
		}
	}
	a, _ = nearlyFull(t, 2)
	full(a, []int{1})
	add(t, a, nil)
	full(a, nil)
	a, _ = nearlyFull(t, 1)
	full(a, nil)
}

func TestDroppedClausesTakeRoomTillItIsPacked(t *testing.T) {
	a, places := nearlyFull(t, 0)
	for _, at := range places[1:] {
		drop(t, a, at)
	}
	if at, e := a.Add(nil); e != api.ErrFull || at != 0 {
		t.Errorf("Add, ahead of packing: %d, %d", at, e)
	}
	first := api.MaxWide + 2
	tells(t, a, []int{0}, api.MaxWords, api.MaxWords-first)
	packs(t, a, api.Move{Old: 0, New: 0})
	tells(t, a, []int{0}, first, 0)
	if at := add(t, a, []int{1}); at != first {
		t.Errorf("Add, packed: at %d", at)
	}
}

func TestPlacesThatAreNone(t *testing.T) {
	a := added(t, []int{1, 2}, nil, []int{1, 1, 1, 1, 1}, []int{3})
	places := []int{0, 4, 6, 13}
	for at := -3; at < 20; at++ {
		if !slices.Contains(places, at) {
			none(t, a, at)
		}
	}
	for _, at := range []int{math.MinInt, math.MaxInt, math.MaxInt - 1, api.MaxWords, api.MaxWords - 1} {
		none(t, a, at)
	}
	tells(t, a, places, 16, 0)
}

func TestDrop(t *testing.T) {
	a := added(t, []int{1, 2}, []int{3}, nil, []int{4, 5, 6})
	drop(t, a, 4)
	none(t, a, 4)
	tells(t, a, []int{0, 7, 9}, 14, 3)
	drop(t, a, 7)
	none(t, a, 7)
	tells(t, a, []int{0, 9}, 14, 5)
	holds(t, a, 0, []int{1, 2})
	holds(t, a, 9, []int{4, 5, 6})
	if at := add(t, a, []int{7}); at != 14 {
		t.Errorf("the next clause at %d", at)
	}
	drop(t, a, 9)
	drop(t, a, 0)
	drop(t, a, 14)
	tells(t, a, nil, 17, 17)
	for at := -1; at < 20; at++ {
		none(t, a, at)
	}
}

func TestSwap(t *testing.T) {
	a := added(t, []int{8, 9}, []int{1, -2, 3, 3}, []int{7})
	swaps := []struct {
		at, i, j int
		want     []int
	}{
		{4, 0, 2, []int{3, -2, 1, 3}}, {4, 3, 1, []int{3, 3, 1, -2}}, {4, 1, 0, []int{3, 3, 1, -2}},
		{4, 2, 2, []int{3, 3, 1, -2}}, {4, 0, 0, []int{3, 3, 1, -2}}, {4, 3, 3, []int{3, 3, 1, -2}},
		{4, 2, 3, []int{3, 3, -2, 1}}, {10, 0, 0, []int{7}},
	}
	for _, s := range swaps {
		if e := a.Swap(s.at, s.i, s.j); e != api.OK {
			t.Errorf("Swap(%d, %d, %d): %d", s.at, s.i, s.j, e)
		}
		holds(t, a, s.at, s.want)
	}
	holds(t, a, 0, []int{8, 9})
	holds(t, a, 10, []int{7})
	tells(t, a, []int{0, 4, 10}, 13, 0)
}

func TestSwapOfNoLiterals(t *testing.T) {
	a := added(t, []int{8, 9}, []int{1, -2, 3}, nil, []int{7})
	for _, i := range []int{-1, -2, 3, 4, 6, math.MinInt, math.MaxInt} {
		for _, j := range []int{0, 1, 2, i} {
			if e := a.Swap(4, i, j); e != api.ErrArg {
				t.Errorf("Swap(4, %d, %d): %d", i, j, e)
			}
			if e := a.Swap(4, j, i); e != api.ErrArg {
				t.Errorf("Swap(4, %d, %d): %d", j, i, e)
			}
		}
	}
	if e := a.Swap(9, 0, 0); e != api.ErrArg {
		t.Errorf("Swap(9, 0, 0), of an empty clause: %d", e)
	}
	holds(t, a, 0, []int{8, 9})
	holds(t, a, 4, []int{1, -2, 3})
	holds(t, a, 9, nil)
	holds(t, a, 11, []int{7})
}

func TestPack(t *testing.T) {
	a := added(t, []int{1, 2}, []int{3}, nil, []int{4, 5, 6}, nil, []int{7})
	drop(t, a, 4)
	drop(t, a, 14)
	packs(t, a, api.Move{Old: 0, New: 0}, api.Move{Old: 7, New: 4}, api.Move{Old: 9, New: 6}, api.Move{Old: 16, New: 11})
	tells(t, a, []int{0, 4, 6, 11}, 14, 0)
	holds(t, a, 0, []int{1, 2})
	holds(t, a, 4, nil)
	holds(t, a, 6, []int{4, 5, 6})
	holds(t, a, 11, []int{7})
	for _, at := range []int{7, 9, 14, 16} {
		none(t, a, at)
	}
	packs(t, a, api.Move{Old: 0, New: 0}, api.Move{Old: 4, New: 4}, api.Move{Old: 6, New: 6}, api.Move{Old: 11, New: 11})
	tells(t, a, []int{0, 4, 6, 11}, 14, 0)
	drop(t, a, 0)
	if at := add(t, a, []int{9, 8}); at != 14 {
		t.Errorf("the next clause at %d", at)
	}
	packs(t, a, api.Move{Old: 4, New: 0}, api.Move{Old: 6, New: 2}, api.Move{Old: 11, New: 7}, api.Move{Old: 14, New: 10})
	holds(t, a, 0, nil)
	holds(t, a, 2, []int{4, 5, 6})
	holds(t, a, 7, []int{7})
	holds(t, a, 10, []int{9, 8})
}

func TestPackOfNothing(t *testing.T) {
	a := New()
	packs(t, a)
	packs(t, a)
	tells(t, a, nil, 0, 0)
	for _, c := range [][]int{{1, 2}, nil, {3}} {
		add(t, a, c)
	}
	for _, at := range a.Places() {
		drop(t, a, at)
	}
	packs(t, a)
	packs(t, a)
	tells(t, a, nil, 0, 0)
	none(t, a, 0)
	if at := add(t, a, []int{5}); at != 0 {
		t.Errorf("the next clause at %d", at)
	}
	holds(t, a, 0, []int{5})
}

// clause is one of a plain list of clauses that an arena is held against.
type clause struct {
	at       int
	literals []int
	dropped  bool
}

// asListed fails unless the arena tells what the list says.
func asListed(t *testing.T, a *Arena, list []clause) {
	t.Helper()
	var places []int
	words, waste := 0, 0
	for _, c := range list {
		words += 2 + len(c.literals)
		if c.dropped {
			waste += 2 + len(c.literals)
			continue
		}
		places = append(places, c.at)
	}
	tells(t, a, places, words, waste)
	for _, c := range list {
		if c.dropped {
			none(t, a, c.at)
		} else {
			holds(t, a, c.at, c.literals)
		}
	}
	if t.Failed() {
		t.FailNow()
	}
}

// packedList is the list without what was dropped, and the moves.
func packedList(list []clause) ([]clause, []api.Move) {
	var left []clause
	var moves []api.Move
	end := 0
	for _, c := range list {
		if c.dropped {
			continue
		}
		moves = append(moves, api.Move{Old: c.at, New: end})
		left = append(left, clause{at: end, literals: c.literals})
		end += 2 + len(c.literals)
	}
	return left, moves
}

func TestClausesStayAsTheyWereAdded(t *testing.T) {
	for seed := range 40 {
		number := uint32(seed)
		pick := func(n int) int {
			number = number*1664525 + 1013904223
			return int(number>>16) % n
		}
		a := New()
		var list []clause
		for range 200 {
			k := pick(12)
			switch {
			case k < 5 || len(list) == 0:
				c := make([]int, pick(5))
				for i := range c {
					// Small ones, which look like kinds and sizes.
					c[i] = []int{1, 2, -1, 3, 4, -7}[pick(6)]
				}
				list = append(list, clause{at: add(t, a, c), literals: c})
			case k < 7:
				c := &list[pick(len(list))]
				if e := a.Drop(c.at); (e == api.OK) == c.dropped {
					t.Fatalf("Drop(%d): %d", c.at, e)
				}
				c.dropped = true
			case k < 11:
				c := &list[pick(len(list))]
				if len(c.literals) == 0 || c.dropped {
					continue
				}
				i, j := pick(len(c.literals)), pick(len(c.literals))
				if e := a.Swap(c.at, i, j); e != api.OK {
					t.Fatalf("Swap(%d, %d, %d): %d", c.at, i, j, e)
				}
				c.literals[i], c.literals[j] = c.literals[j], c.literals[i]
			default:
				left, moves := packedList(list)
				packs(t, a, moves...)
				list = left
			}
			asListed(t, a, list)
		}
	}
}

func TestManyClauses(t *testing.T) {
	a := New()
	for i := range api.MaxWords / 2 {
		if at, e := a.Add(nil); e != api.OK || at != 2*i {
			t.Fatalf("empty clause %d: %d, %d", i, at, e)
		}
	}
	if _, e := a.Add(nil); e != api.ErrFull {
		t.Errorf("Add: %d", e)
	}
	for at := 0; at < api.MaxWords; at += 4 {
		drop(t, a, at)
	}
	if a.Count() != api.MaxWords/4 || a.Waste() != api.MaxWords/2 || len(a.Pack()) != api.MaxWords/4 {
		t.Error("half of them are left")
	}
	if a.Count() != api.MaxWords/4 || a.Waste() != 0 || a.Words() != api.MaxWords/2 {
		t.Error("packed")
	}
}

// nobodys fails unless this is an arena that New did not give.
func nobodys(t *testing.T, a *Arena) {
	t.Helper()
	for _, c := range [][]int{nil, {}, {1}, {1, -2}, wide(1, api.MaxWide)} {
		if at, e := a.Add(c); e != api.ErrFull || at != 0 {
			t.Errorf("Add of %d literals: %d, %d", len(c), at, e)
		}
	}
	for i, c := range noClauses() {
		if at, e := a.Add(c); e != api.ErrArg || at != 0 {
			t.Errorf("no clause %d: %d, %d", i, at, e)
		}
	}
	for _, at := range []int{math.MinInt, -1, 0, 1, 4, math.MaxInt} {
		none(t, a, at)
	}
	tells(t, a, nil, 0, 0)
	packs(t, a)
	tells(t, a, nil, 0, 0)
}

func TestOfAnArenaThatNewDidNotGive(t *testing.T) {
	nobodys(t, nil)
	nobodys(t, &Arena{})
	nobodys(t, new(Arena))
	a := added(t, []int{1, 2}, []int{3})
	twin := *a
	nobodys(t, &twin)
	add(t, a, []int{4})
	nobodys(t, &twin)
	tells(t, a, []int{0, 4, 7}, 10, 0)
	holds(t, a, 0, []int{1, 2})
}

func TestNothingHandedInIsWrittenToOrKept(t *testing.T) {
	a := New()
	c := []int{3, 1, 2}
	room := append(make([]int, 0, 8), 5, 6)
	add(t, a, c)
	add(t, a, room)
	a.Swap(0, 0, 2)
	a.Swap(5, 0, 1)
	a.Pack()
	add(t, a, []int{7})
	if !slices.Equal(c, []int{3, 1, 2}) || !slices.Equal(room[:4], []int{5, 6, 0, 0}) {
		t.Error("a clause was written to")
	}
	c[0], room[1] = 99, 99
	holds(t, a, 0, []int{2, 1, 3})
	holds(t, a, 5, []int{6, 5})
}

func TestAnswersAreNewMemory(t *testing.T) {
	a := added(t, []int{1, 2}, nil, []int{3})
	spoil := func(l []int) {
		l = l[:cap(l)]
		for i := range l {
			l[i] = 99
		}
	}
	for _, at := range []int{0, 4, 6} {
		c, _ := a.Get(at)
		spoil(c)
		d, _ := a.Get(at)
		if slices.Contains(d, 99) {
			t.Error("two answers share memory")
		}
	}
	spoil(a.Places())
	moves := a.Pack()
	moves = moves[:cap(moves)]
	for i := range moves {
		moves[i] = api.Move{Old: 99, New: 99}
	}
	packs(t, a, api.Move{Old: 0, New: 0}, api.Move{Old: 4, New: 4}, api.Move{Old: 6, New: 6})
	tells(t, a, []int{0, 4, 6}, 9, 0)
	holds(t, a, 0, []int{1, 2})
	holds(t, a, 6, []int{3})
}
