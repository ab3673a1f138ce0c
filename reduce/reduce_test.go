package reduce

import (
	"math"
	"math/big"
	"slices"
	"testing"

	"fathom/api"
)

// The chapter's numbers, written out once more: a test by the package's own would follow whatever they turn to.
const (
	theWide  = 4096
	theFew   = 2
	theFirst = 1048576
	theTimes = 100
)

// plainMayBe tells, by the chapter's words, whether a learned clause may be.
func plainMayBe(c api.Learnt) bool {
	if c.Size < 0 || c.Size > theWide {
		return false
	}
	return 0 <= c.Levels && c.Levels <= c.Size
}

// plainCheck is ErrArg, if one of them may not be.
func plainCheck(l []api.Learnt) api.Errno {
	if slices.ContainsFunc(l, func(c api.Learnt) bool { return !plainMayBe(c) }) {
		return api.ErrArg
	}
	return api.OK
}

// plainBetter tells whether the one at a is better than the one at b.
func plainBetter(l []api.Learnt, a, b int) bool {
	if l[a].Levels != l[b].Levels {
		return l[a].Levels < l[b].Levels
	}
	if l[a].Size != l[b].Size {
		return l[a].Size < l[b].Size
	}
	return a > b
}

// plainOrder puts each one at the place that is how many are better.
func plainOrder(l []api.Learnt) []int {
	order := make([]int, len(l))
	for a := range l {
		ahead := 0
		for b := range l {
			if plainBetter(l, b, a) {
				ahead++
			}
		}
		order[ahead] = a
	}
	return order
}

// plainNeed tells whether it stays, whatever the others are.
func plainNeed(c api.Learnt) bool {
	return c.Locked || c.Levels <= theFew
}

// plainKeep lets one that need not stay be there, if fewer are better than half of these are.
func plainKeep(l []api.Learnt) []bool {
	stays := make([]bool, len(l))
	if plainCheck(l) != api.OK {
		return stays
	}
	n := 0
	for _, c := range l {
		if !plainNeed(c) {
			n++
		}
	}
	for a, c := range l {
		ahead := 0
		for b, other := range l {
			if !plainNeed(other) && plainBetter(l, b, a) {
				ahead++
			}
		}
		stays[a] = plainNeed(c) || ahead < n/2
	}
	return stays
}

// plainQuota is the quota, by numbers of any size.
func plainQuota(first, times int) int {
	if first < 1 || first > theFirst || times < 0 || times > theTimes {
		return 0
	}
	quota := big.NewInt(int64(first))
	for range times {
		tenth := new(big.Int).Quo(quota, big.NewInt(10))
		quota.Add(quota, tenth)
		quota.Add(quota, big.NewInt(1))
	}
	return int(quota.Int64())
}

// numbers is a row of numbers, the same for each seed.
type numbers uint64

// below is the next one, from 0 to n - 1.
func (r *numbers) below(n int) int {
	*r = *r*6364136223846793005 + 1442695040888963407
	return int(uint64(*r>>33) % uint64(n))
}

// list is learned clauses, at most most of them, whose levels and sizes are less than spread: the lesser it is, the more are alike.
func (r *numbers) list(most, spread int) []api.Learnt {
	l := make([]api.Learnt, r.below(most+1))
	for at := range l {
		size := r.below(spread)
		l[at] = api.Learnt{Levels: r.below(size + 1), Size: size, Locked: r.below(4) == 0}
	}
	return l
}

// of is a learned clause that need not be locked.
func of(levels, size int) api.Learnt { return api.Learnt{Levels: levels, Size: size} }

// locked is one that must stay.
func locked(levels, size int) api.Learnt {
	return api.Learnt{Levels: levels, Size: size, Locked: true}
}

// hold asks each call of a list twice, and holds what it tells against the plain way and what follows.
func hold(t *testing.T, l []api.Learnt) {
	t.Helper()
	was := slices.Clone(l)
	if got, want := Check(l), plainCheck(l); got != want || Check(l) != want {
		t.Fatalf("Check(%v) is %v, not %v", l, got, want)
	}
	order := Order(l)
	if want := plainOrder(l); !slices.Equal(order, want) {
		t.Fatalf("Order(%v) is %v, not %v", l, order, want)
	}
	stays := Keep(l)
	if want := plainKeep(l); !slices.Equal(stays, want) {
		t.Fatalf("Keep(%v) is %v, not %v", l, stays, want)
	}
	holdHalf(t, l, stays)
	holdNew(t, l, order, stays)
	if !slices.Equal(l, was) {
		t.Fatalf("%v was turned to %v", was, l)
	}
}

// holdHalf tells, if what follows is not so: of those that need not stay at most half stay, and none that goes is better.
func holdHalf(t *testing.T, l []api.Learnt, stays []bool) {
	t.Helper()
	if plainCheck(l) != api.OK {
		if slices.Contains(stays, true) {
			t.Fatalf("Keep(%v) lets one stay", l)
		}
		return
	}
	n, left := 0, 0
	for a, c := range l {
		if plainNeed(c) {
			if !stays[a] {
				t.Fatalf("Keep(%v) lets %v go, that must stay", l, c)
			}
			continue
		}
		n++
		if !stays[a] {
			continue
		}
		left++
		for b := range l {
			if !stays[b] && plainBetter(l, b, a) {
				t.Fatalf("Keep(%v) lets %v go, and not %v", l, l[b], c)
			}
		}
	}
	if 2*left > n || 2*(left+1) <= n {
		t.Fatalf("Keep(%v) lets %d of %d stay", l, left, n)
	}
}

// holdNew writes to what was told, asks again, and tells if the answers are others than they were.
func holdNew(t *testing.T, l []api.Learnt, order []int, stays []bool) {
	t.Helper()
	wasOrder, wasStays := slices.Clone(order), slices.Clone(stays)
	for at := range l {
		order[at] = -1
		stays[at] = !stays[at]
	}
	if !slices.Equal(Order(l), wasOrder) || !slices.Equal(Keep(l), wasStays) {
		t.Fatalf("of %v the second answers are not as the first", l)
	}
}

// say is a list whose answers stand written out.
type say struct {
	name  string
	list  []api.Learnt
	order []int
	stays []bool
}

// holdSaid holds lists against what stands written out, and against the plain way.
func holdSaid(t *testing.T, all []say) {
	t.Helper()
	for _, s := range all {
		if Check(s.list) != api.OK {
			t.Errorf("%s: Check is not OK", s.name)
		}
		if got := Order(s.list); !slices.Equal(got, s.order) {
			t.Errorf("%s: Order is %v, not %v", s.name, got, s.order)
		}
		if got := Keep(s.list); !slices.Equal(got, s.stays) {
			t.Errorf("%s: Keep is %v, not %v", s.name, got, s.stays)
		}
		hold(t, s.list)
	}
}

func TestExample(t *testing.T) {
	holdSaid(t, []say{{"of 3, 4, 5 levels", []api.Learnt{of(3, 9), of(4, 9), of(5, 9)}, []int{0, 1, 2}, []bool{true, false, false}}})
}

func TestFew(t *testing.T) {
	holdSaid(t, []say{
		{"nil", nil, nil, nil},
		{"none", []api.Learnt{}, nil, nil},
		{"one that need not stay", []api.Learnt{of(3, 3)}, []int{0}, []bool{false}},
		{"one that is locked", []api.Learnt{locked(3, 3)}, []int{0}, []bool{true}},
		{"one of 2 levels", []api.Learnt{of(2, 3)}, []int{0}, []bool{true}},
		{"two", []api.Learnt{of(4, 4), of(3, 4)}, []int{1, 0}, []bool{false, true}},
		{"three", []api.Learnt{of(5, 5), of(3, 5), of(4, 5)}, []int{1, 2, 0}, []bool{false, true, false}},
		{"four", []api.Learnt{of(5, 6), of(3, 6), of(6, 6), of(4, 6)}, []int{1, 3, 0, 2}, []bool{false, true, false, true}},
		{"five", []api.Learnt{of(7, 7), of(5, 7), of(3, 7), of(6, 7), of(4, 7)}, []int{2, 4, 1, 3, 0}, []bool{false, false, true, false, true}},
	})
}

func TestEdges(t *testing.T) {
	holdSaid(t, []say{
		{"levels 0, size 0", []api.Learnt{of(0, 0)}, []int{0}, []bool{true}},
		{"levels 0, size 4096", []api.Learnt{of(0, 4096)}, []int{0}, []bool{true}},
		{"levels equal to size", []api.Learnt{of(4096, 4096), of(3, 3), of(1, 1)}, []int{2, 1, 0}, []bool{false, true, true}},
		{"2 levels and 3", []api.Learnt{of(3, 3), of(2, 3), of(3, 4), of(2, 4096)}, []int{1, 3, 0, 2}, []bool{true, true, false, true}},
		{"all locked", []api.Learnt{locked(9, 9), locked(3, 3), locked(9, 9)}, []int{1, 2, 0}, []bool{true, true, true}},
		{"none locked", []api.Learnt{of(9, 9), of(3, 3), of(9, 9)}, []int{1, 2, 0}, []bool{false, true, false}},
		{"none but such as must stay", []api.Learnt{locked(9, 9), of(2, 2), of(0, 0)}, []int{2, 1, 0}, []bool{true, true, true}},
		{"one that need not stay, beside others", []api.Learnt{locked(9, 9), of(3, 3), of(1, 1)}, []int{2, 1, 0}, []bool{true, false, true}},
		{"an even number of such", []api.Learnt{locked(9, 9), of(4, 4), of(3, 3), of(1, 1)}, []int{3, 2, 1, 0}, []bool{true, false, true, true}},
		{"an odd number of such", []api.Learnt{of(5, 5), of(4, 4), locked(3, 3), of(3, 3)}, []int{3, 2, 1, 0}, []bool{false, false, true, true}},
		{"alike but for their places", []api.Learnt{of(3, 4), of(3, 4)}, []int{1, 0}, []bool{false, true}},
		{"four alike", []api.Learnt{of(3, 4), of(3, 4), of(3, 4), of(3, 4)}, []int{3, 2, 1, 0}, []bool{false, false, true, true}},
		{"alike but for the lock", []api.Learnt{locked(3, 4), of(3, 4), of(3, 4)}, []int{2, 1, 0}, []bool{true, false, true}},
		{"as many levels, unlike size", []api.Learnt{of(3, 5), of(3, 6), of(3, 4), of(3, 7)}, []int{2, 0, 1, 3}, []bool{true, false, true, false}},
		{"fewer levels go ahead of size", []api.Learnt{of(3, 4096), of(4, 4)}, []int{0, 1}, []bool{true, false}},
		{"locked ones are not of the half", []api.Learnt{locked(3, 3), locked(3, 3), of(8, 8), of(9, 9)}, []int{1, 0, 2, 3}, []bool{true, true, true, false}},
		{"clauses of 2 levels are not of the half", []api.Learnt{of(2, 2), of(2, 2), of(8, 8), of(9, 9)}, []int{1, 0, 2, 3}, []bool{true, true, true, false}},
	})
}

// spoiled is learned clauses that may not be.
func spoiled() []api.Learnt {
	return []api.Learnt{
		of(-1, 3), of(math.MinInt, 3), of(4, 3), of(math.MaxInt, 3), of(1, 0),
		of(0, -1), of(-1, -1), of(-2, -1), of(0, math.MinInt), of(math.MinInt, math.MinInt),
		of(3, 4097), of(0, 4097), of(4097, 4097), of(4097, 4096), of(3, math.MaxInt), of(math.MaxInt, math.MaxInt),
		of(math.MaxInt, math.MinInt), of(math.MinInt, math.MaxInt),
	}
}

func TestWrong(t *testing.T) {
	good := []api.Learnt{of(3, 3), locked(4, 4), of(2, 2), of(5, 4096)}
	for _, wrong := range spoiled() {
		for _, lock := range []bool{false, true} {
			wrong.Locked = lock
			hold(t, []api.Learnt{wrong})
			for at := range len(good) + 1 {
				l := slices.Insert(slices.Clone(good), at, wrong)
				if Check(l) != api.ErrArg {
					t.Errorf("Check(%v) is not ErrArg", l)
				}
				if got := Keep(l); len(got) != len(l) || slices.Contains(got, true) {
					t.Errorf("Keep(%v) is %v", l, got)
				}
				hold(t, l)
			}
		}
	}
	hold(t, spoiled())
}

func TestWrongOrder(t *testing.T) {
	l := []api.Learnt{of(math.MaxInt, 3), of(math.MinInt, 3), of(3, math.MaxInt), of(3, math.MinInt), of(3, 3)}
	if got := Order(l); !slices.Equal(got, []int{1, 3, 4, 2, 0}) {
		t.Errorf("Order is %v", got)
	}
}

// TestAllShort goes through all lists of up to four of some clauses.
func TestAllShort(t *testing.T) {
	kinds := []api.Learnt{of(0, 0), of(2, 3), of(3, 3), of(3, 4), of(4, 4), locked(3, 4), locked(4, 4), of(5, 4)}
	var grow func(l []api.Learnt)
	grow = func(l []api.Learnt) {
		hold(t, l)
		if len(l) == 4 {
			return
		}
		for _, c := range kinds {
			grow(append(slices.Clone(l), c))
		}
	}
	grow(nil)
}

func TestMany(t *testing.T) {
	r := numbers(13)
	for range 3000 {
		l := r.list(40, []int{5, 10, 100, theWide + 1}[r.below(4)])
		hold(t, l)
		if len(l) > 0 && r.below(4) == 0 {
			wrong := spoiled()
			l[r.below(len(l))] = wrong[r.below(len(wrong))]
			hold(t, l)
		}
	}
}

func TestLong(t *testing.T) {
	r := numbers(31)
	for _, spread := range []int{4, 8, theWide + 1} {
		hold(t, r.list(4000, spread))
	}
}

func TestQuotaSaid(t *testing.T) {
	for _, s := range []struct{ first, times, quota int }{
		{1, 0, 1}, {1, 1, 2}, {1, 2, 3}, {1, 9, 10}, {1, 10, 12}, {1, 100, 93861},
		{8, 1, 9}, {9, 1, 10}, {10, 0, 10}, {10, 1, 12}, {10, 2, 14}, {19, 1, 21}, {20, 1, 23}, {100, 1, 111}, {100, 2, 123},
		{1048576, 0, 1048576}, {1048576, 1, 1153434}, {1048576, 2, 1268778}, {1048576, 100, 14450104486},
	} {
		if got := Quota(s.first, s.times); got != s.quota {
			t.Errorf("Quota(%d, %d) is %d, not %d", s.first, s.times, got, s.quota)
		}
	}
}

// holdQuota holds the quota, and what is due about it, against the plain way.
func holdQuota(t *testing.T, first, times int) {
	t.Helper()
	want := plainQuota(first, times)
	if got := Quota(first, times); got != want || Quota(first, times) != want {
		t.Fatalf("Quota(%d, %d) is %d, not %d", first, times, got, want)
	}
	for _, learnt := range []int{want - 1, want, want + 1, 0, -1, 1, math.MinInt, math.MaxInt} {
		due := want > 0 && learnt >= want
		if Due(learnt, first, times) != due || Due(learnt, first, times) != due {
			t.Fatalf("Due(%d, %d, %d) is not %v", learnt, first, times, due)
		}
	}
}

func TestQuota(t *testing.T) {
	firsts := []int{theFirst - 1, theFirst}
	for first := 1; first <= 120; first++ {
		firsts = append(firsts, first)
	}
	r := numbers(7)
	for range 200 {
		firsts = append(firsts, r.below(theFirst)+1)
	}
	for _, first := range firsts {
		for times := range theTimes + 1 {
			holdQuota(t, first, times)
			if times > 0 && Quota(first, times) <= Quota(first, times-1) {
				t.Fatalf("Quota(%d, %d) does not grow", first, times)
			}
		}
	}
}

func TestWrongQuota(t *testing.T) {
	wrongFirst := []int{0, -1, -10, theFirst + 1, math.MinInt, math.MaxInt}
	wrongTimes := []int{-1, theTimes + 1, math.MinInt, math.MaxInt}
	asked := func(first, times int) {
		if got := Quota(first, times); got != 0 {
			t.Errorf("Quota(%d, %d) is %d", first, times, got)
		}
		for _, learnt := range []int{math.MinInt, -1, 0, 1, theFirst, math.MaxInt} {
			if Due(learnt, first, times) {
				t.Errorf("Due(%d, %d, %d)", learnt, first, times)
			}
		}
		holdQuota(t, first, times)
	}
	for _, first := range wrongFirst {
		for _, times := range append([]int{0, 1, 50, theTimes}, wrongTimes...) {
			asked(first, times)
		}
	}
	for _, times := range wrongTimes {
		for _, first := range []int{1, 10, theFirst} {
			asked(first, times)
		}
	}
}

func TestDue(t *testing.T) {
	for _, s := range []struct {
		learnt, first, times int
		due                  bool
	}{
		{9, 10, 0, false}, {10, 10, 0, true}, {11, 10, 0, true},
		{11, 10, 1, false}, {12, 10, 1, true}, {13, 10, 1, true},
		{0, 1, 0, false}, {1, 1, 0, true}, {-1, 1, 0, false}, {math.MinInt, 1, 0, false}, {math.MaxInt, 1, 0, true},
		{14450104485, 1048576, 100, false}, {14450104486, 1048576, 100, true}, {math.MaxInt, 1048576, 100, true},
		{5, 0, 0, false}, {5, 5, 101, false}, {0, 0, 0, false}, {-5, -5, 0, false},
	} {
		if Due(s.learnt, s.first, s.times) != s.due {
			t.Errorf("Due(%d, %d, %d) is not %v", s.learnt, s.first, s.times, s.due)
		}
	}
}
