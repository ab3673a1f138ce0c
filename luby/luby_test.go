package luby

import (
	"math"
	"math/bits"
	"testing"

	"fathom/api"
)

// The chapter's numbers, written out once more: a test by the package's own would follow whatever they turn to.
const (
	theUnit = 1048576
	theAt   = 1073741824
	// theBits is the k of 2^k for the last place.
	theBits = 30
)

// table is the first numbers of the row, by their places; the first of it is nobody's.
func table(size int) []int {
	row := make([]int, size+1)
	// last is 2^k - 1, number is 2^(k-1), and ahead is 2^(k-1) - 1.
	last, number, ahead := 1, 1, 0
	for i := 1; i <= size; i++ {
		if i < last {
			row[i] = row[i-ahead]
			continue
		}
		row[i] = number
		last, number, ahead = 2*last+1, 2*number, last
	}
	return row
}

// plainNumber is the i-th number, as the chapter's words say.
func plainNumber(i int) int {
	last, number, ahead := 1, 1, 0
	for last < i {
		last, number, ahead = 2*last+1, 2*number, last
	}
	if i == last {
		return number
	}
	return plainNumber(i - ahead)
}

// plainSum is the first n numbers together: those up to a (2^k - 1)-th, and, again from the row's beginning on, those behind it.
func plainSum(n int) int {
	last, number, ahead := 1, 1, 0
	// sums is the sum of the first so many as ahead is: these stand twice ahead of the last one.
	sums := 0
	for last <= n {
		sums = 2*sums + number
		last, number, ahead = 2*last+1, 2*number, last
	}
	if ahead == n {
		return sums
	}
	return sums + plainSum(n-ahead)
}

// numbers is a row of numbers, the same for each seed.
type numbers uint64

// pick is the next one, from 1 to n.
func (r *numbers) pick(n int) int {
	*r = *r*6364136223846793005 + 1442695040888963407
	return int(uint64(*r>>33)%uint64(n)) + 1
}

// places is places of the row: its first ones, the (2^k - 1)-th ones, those beside them, its last ones, and many others.
func places() []int {
	var list []int
	for i := 1; i <= 3000; i++ {
		list = append(list, i, theAt+1-i)
	}
	for k := 2; k <= theBits; k++ {
		for _, beside := range []int{-3, -2, -1, 0, 1} {
			if i := 1<<k + beside; i > 0 && i <= theAt {
				list = append(list, i)
			}
		}
	}
	r := numbers(7)
	for range 200000 {
		list = append(list, r.pick(theAt), r.pick(1<<r.pick(theBits)))
	}
	return list
}

// isNumber fails unless this is the i-th number.
func isNumber(t *testing.T, i, want int) {
	t.Helper()
	if got, e := Number(i); got != want || e != api.OK {
		t.Fatalf("Number(%d) = %d, %d; not %d", i, got, e, want)
	}
}

// isSum fails unless this is the first n numbers together.
func isSum(t *testing.T, n, want int) {
	t.Helper()
	if got, e := Sum(n); got != want || e != api.OK {
		t.Fatalf("Sum(%d) = %d, %d; not %d", n, got, e, want)
	}
}

func TestExample(t *testing.T) {
	sum := 0
	for i, want := range []int{1, 1, 2, 1, 1, 2, 4} {
		isNumber(t, i+1, want)
		sum += want
		isSum(t, i+1, sum)
	}
	isSum(t, 7, 12)
}

func TestFirstNumbers(t *testing.T) {
	row := []int{
		1, 1, 2, 1, 1, 2, 4,
		1, 1, 2, 1, 1, 2, 4, 8,
		1, 1, 2, 1, 1, 2, 4, 1, 1, 2, 1, 1, 2, 4, 8, 16,
		1, 1, 2, 1, 1, 2, 4, 1,
	}
	for i, want := range row {
		isNumber(t, i+1, want)
	}
}

func TestNumbersAtTheEndsOfTheRowsParts(t *testing.T) {
	for k := 1; k <= theBits; k++ {
		end := 1<<k - 1
		isNumber(t, end, 1<<(k-1))
		// Behind an end the row is as from its beginning on.
		isNumber(t, end+1, 1)
		if k > 1 && k < theBits {
			isNumber(t, end+2, 1)
		}
		if k > 1 {
			isNumber(t, end-1, 1<<(k-2))
		}
		if k > 2 {
			isNumber(t, end-2, 1<<(k-3))
		}
	}
	isNumber(t, theAt-2, 1<<28)
	isNumber(t, theAt-1, 1<<29)
	isNumber(t, theAt, 1)
}

func TestNumberOfNoPlace(t *testing.T) {
	for _, i := range []int{math.MinInt, math.MinInt + 1, -theAt - 1, -theAt, -7, -2, -1, 0, theAt + 1, theAt + 2, 1<<31 - 1, 1 << 31, 1<<32 + 1, 1<<62 - 1, math.MaxInt - 1, math.MaxInt} {
		if got, e := Number(i); got != 0 || e != api.ErrArg {
			t.Errorf("Number(%d) = %d, %d", i, got, e)
		}
	}
}

func TestSums(t *testing.T) {
	isSum(t, 0, 0)
	isSum(t, 1, 1)
	isSum(t, 2, 2)
	isSum(t, 3, 4)
	isSum(t, theAt-1, 30*(1<<29))
	isSum(t, theAt, 16106127361)
}

func TestSumsUpToTheEndsOfTheRowsParts(t *testing.T) {
	for k := 1; k <= theBits; k++ {
		end := 1<<k - 1
		sum := k * (1 << (k - 1))
		isSum(t, end, sum)
		isSum(t, end-1, sum-1<<(k-1))
		isSum(t, end+1, sum+1)
	}
}

func TestSumOfWhatIsNoCount(t *testing.T) {
	for _, n := range []int{math.MinInt, math.MinInt + 1, -theAt - 1, -theAt, -7, -2, -1, theAt + 1, theAt + 2, 1<<31 - 1, 1 << 31, 1<<32 + 1, 1<<62 - 1, math.MaxInt - 1, math.MaxInt} {
		if got, e := Sum(n); got != 0 || e != api.ErrArg {
			t.Errorf("Sum(%d) = %d, %d", n, got, e)
		}
	}
}

func TestAgainstAPlainRow(t *testing.T) {
	sum := 0
	for i, want := range table(1 << 20) {
		if i > 0 {
			isNumber(t, i, want)
		}
		sum += want
		isSum(t, i, sum)
	}
}

func TestAtPlacesOfTheWholeRow(t *testing.T) {
	for _, i := range places() {
		want := plainNumber(i)
		if bits.OnesCount(uint(want)) != 1 {
			t.Fatalf("%d is no power of two", want)
		}
		isNumber(t, i, want)
		isSum(t, i, plainSum(i))
		ahead, e := Sum(i - 1)
		if sum, e2 := Sum(i); sum != ahead+want || e != api.OK || e2 != api.OK {
			t.Fatalf("Sum(%d) = %d, and one less: %d; not %d less", i, sum, ahead, want)
		}
	}
}

func TestEachNumberIsAPowerOfTwo(t *testing.T) {
	for _, i := range places() {
		if got, e := Number(i); got < 1 || got&(got-1) != 0 || got > 1<<29 || e != api.OK {
			t.Fatalf("Number(%d) = %d, %d", i, got, e)
		}
	}
}

func TestStart(t *testing.T) {
	for _, unit := range []int{1, 2, 3, 64, 100, theUnit - 1, theUnit} {
		want := api.Pace{Unit: unit, At: 1, Left: unit}
		p, e := Start(unit)
		if p != want || e != api.OK {
			t.Errorf("Start(%d) = %v, %d", unit, p, e)
		}
		if Check(p) != api.OK || Until(p) != unit {
			t.Errorf("Check(%v) = %d, Until is %d", p, Check(p), Until(p))
		}
	}
}

func TestStartOfNoUnit(t *testing.T) {
	for _, unit := range []int{math.MinInt, math.MinInt + 1, -theUnit - 1, -theUnit, -2, -1, 0, theUnit + 1, theUnit + 2, 1 << 32, 1<<32 + 1, math.MaxInt - 1, math.MaxInt} {
		if p, e := Start(unit); p != (api.Pace{}) || e != api.ErrArg {
			t.Errorf("Start(%d) = %v, %d", unit, p, e)
		}
	}
}

// mayBe fails unless this is a pace that may be, and one tick lets it be the wanted one.
func mayBe(t *testing.T, p, want api.Pace, anew bool) {
	t.Helper()
	if e := Check(p); e != api.OK {
		t.Fatalf("Check(%v) = %d", p, e)
	}
	if left := Until(p); left != p.Left {
		t.Fatalf("Until(%v) = %d", p, left)
	}
	if next, ok := Tick(p); next != want || ok != anew {
		t.Fatalf("Tick(%v) = %v, %v; not %v, %v", p, next, ok, want, anew)
	}
}

// mayNotBe fails unless this is a pace that may not be.
func mayNotBe(t *testing.T, p api.Pace) {
	t.Helper()
	if e := Check(p); e != api.ErrArg {
		t.Errorf("Check(%v) = %d", p, e)
	}
	if left := Until(p); left != 0 {
		t.Errorf("Until(%v) = %d", p, left)
	}
	if next, anew := Tick(p); next != (api.Pace{}) || anew {
		t.Errorf("Tick(%v) = %v, %v", p, next, anew)
	}
}

func TestTick(t *testing.T) {
	mayBe(t, api.Pace{Unit: 2, At: 1, Left: 2}, api.Pace{Unit: 2, At: 1, Left: 1}, false)
	mayBe(t, api.Pace{Unit: 2, At: 1, Left: 1}, api.Pace{Unit: 2, At: 2, Left: 2}, true)
	mayBe(t, api.Pace{Unit: 2, At: 2, Left: 1}, api.Pace{Unit: 2, At: 3, Left: 4}, true)
	mayBe(t, api.Pace{Unit: 2, At: 3, Left: 4}, api.Pace{Unit: 2, At: 3, Left: 3}, false)
	mayBe(t, api.Pace{Unit: 2, At: 3, Left: 1}, api.Pace{Unit: 2, At: 4, Left: 2}, true)
	mayBe(t, api.Pace{Unit: 100, At: 6, Left: 1}, api.Pace{Unit: 100, At: 7, Left: 400}, true)
	mayBe(t, api.Pace{Unit: 100, At: 7, Left: 400}, api.Pace{Unit: 100, At: 7, Left: 399}, false)
	mayBe(t, api.Pace{Unit: 100, At: 7, Left: 1}, api.Pace{Unit: 100, At: 8, Left: 100}, true)
}

func TestTickWritesToNothing(t *testing.T) {
	p := api.Pace{Unit: 5, At: 3, Left: 1}
	first, anew := Tick(p)
	again, anew2 := Tick(p)
	if p != (api.Pace{Unit: 5, At: 3, Left: 1}) || first != again || !anew || !anew2 {
		t.Errorf("%v: %v, %v, and then %v, %v", p, first, anew, again, anew2)
	}
}

func TestTickOfAUnitOfOne(t *testing.T) {
	p, _ := Start(1)
	for i, number := range table(1 << 12) {
		for left := number; left > 0; left-- {
			next := api.Pace{Unit: 1, At: i, Left: left - 1}
			if left == 1 {
				next = api.Pace{Unit: 1, At: i + 1, Left: plainNumber(i + 1)}
			}
			mayBe(t, p, next, left == 1)
			p = next
		}
	}
}

func TestTickBeginsAtOneAgain(t *testing.T) {
	for _, unit := range []int{1, 2, 100, theUnit} {
		begin := api.Pace{Unit: unit, At: 1, Left: unit}
		mayBe(t, api.Pace{Unit: unit, At: theAt, Left: 1}, begin, true)
		mayBe(t, api.Pace{Unit: unit, At: theAt - 1, Left: 1}, api.Pace{Unit: unit, At: theAt, Left: unit}, true)
		if unit > 1 {
			mayBe(t, api.Pace{Unit: unit, At: theAt, Left: unit}, api.Pace{Unit: unit, At: theAt, Left: unit - 1}, false)
		}
		most := unit * (1 << 29)
		mayBe(t, api.Pace{Unit: unit, At: theAt - 1, Left: most}, api.Pace{Unit: unit, At: theAt - 1, Left: most - 1}, false)
		mayBe(t, api.Pace{Unit: unit, At: theAt - 2, Left: 1}, api.Pace{Unit: unit, At: theAt - 1, Left: most}, true)
	}
}

func TestPacesThatMayNotBe(t *testing.T) {
	mayNotBe(t, api.Pace{})
	least := []int{math.MinInt, math.MinInt + 1, -2, -1, 0}
	for _, low := range least {
		mayNotBe(t, api.Pace{Unit: low, At: 1, Left: 1})
		mayNotBe(t, api.Pace{Unit: 1, At: low, Left: 1})
		mayNotBe(t, api.Pace{Unit: 1, At: 1, Left: low})
		mayNotBe(t, api.Pace{Unit: theUnit, At: theAt, Left: low})
		mayNotBe(t, api.Pace{Unit: low, At: low, Left: low})
	}
	// Greater ones are wrong even where Unit times the number, or its lowest bits, would let Left be.
	for _, unit := range []int{theUnit + 1, theUnit + 2, 1 << 32, 1<<32 + 1, 1 << 62, math.MaxInt - 1, math.MaxInt} {
		for _, at := range []int{1, 3, 7, theAt - 1, theAt} {
			mayNotBe(t, api.Pace{Unit: unit, At: at, Left: 1})
			mayNotBe(t, api.Pace{Unit: unit, At: at, Left: unit})
		}
	}
	for _, at := range []int{theAt + 1, theAt + 2, 1<<31 - 1, 1 << 31, 1<<32 + 1, math.MaxInt - 1, math.MaxInt} {
		mayNotBe(t, api.Pace{Unit: 1, At: at, Left: 1})
		mayNotBe(t, api.Pace{Unit: theUnit, At: at, Left: theUnit})
	}
	for _, extreme := range []int{math.MinInt, math.MaxInt} {
		mayNotBe(t, api.Pace{Unit: extreme, At: extreme, Left: extreme})
		mayNotBe(t, api.Pace{Unit: extreme, At: theAt, Left: 1})
		mayNotBe(t, api.Pace{Unit: theUnit, At: extreme, Left: 1})
		mayNotBe(t, api.Pace{Unit: theUnit, At: theAt, Left: extreme})
	}
}

func TestLeftIsAtMostUnitTimesItsNumber(t *testing.T) {
	r := numbers(11)
	for _, i := range places() {
		unit := []int{1, 2, theUnit - 1, theUnit, r.pick(theUnit)}[r.pick(5)-1]
		most := unit * plainNumber(i)
		next := api.Pace{Unit: unit, At: i, Left: most - 1}
		if most > 1 {
			mayBe(t, api.Pace{Unit: unit, At: i, Left: most}, next, false)
		}
		mayNotBe(t, api.Pace{Unit: unit, At: i, Left: most + 1})
		mayNotBe(t, api.Pace{Unit: unit, At: i, Left: 0})
		mayNotBe(t, api.Pace{Unit: unit, At: i, Left: math.MaxInt})
	}
}

func TestTickOverManyPaces(t *testing.T) {
	r := numbers(3)
	for _, i := range places() {
		unit := r.pick(theUnit)
		left := r.pick(unit) * r.pick(plainNumber(i))
		if left > 1 {
			mayBe(t, api.Pace{Unit: unit, At: i, Left: left}, api.Pace{Unit: unit, At: i, Left: left - 1}, false)
		}
		behind := i%theAt + 1
		next := api.Pace{Unit: unit, At: behind, Left: unit * plainNumber(behind)}
		mayBe(t, api.Pace{Unit: unit, At: i, Left: 1}, next, true)
	}
}

// gap ticks a pace till it begins anew: that pace, and how many ticks it took; it gives up behind so many.
func gap(p api.Pace, most int) (api.Pace, int) {
	for ticks := 1; ticks <= most; ticks++ {
		next, anew := Tick(p)
		if anew {
			return next, ticks
		}
		p = next
	}
	return api.Pace{}, 0
}

// anewBehindEach fails unless a pace, ticked again and again, begins anew behind just Unit times each number, from its place on, so often.
func anewBehindEach(t *testing.T, p api.Pace, often int) api.Pace {
	t.Helper()
	at := p.At
	for range often {
		want := p.Unit * plainNumber(at)
		next, ticks := gap(p, want+1)
		if ticks != want {
			t.Fatalf("%v begins anew behind %d ticks, not %d", p, ticks, want)
		}
		at = at%theAt + 1
		p = next
	}
	return p
}

func TestBeginsAnewBehindUnitTimesEachNumber(t *testing.T) {
	for _, unit := range []int{1, 2, 3, 4, 7, 16, 50, 100} {
		p, e := Start(unit)
		if e != api.OK {
			t.Fatalf("Start(%d): %d", unit, e)
		}
		anewBehindEach(t, p, 300)
	}
}

func TestTheGreatestUnitBeginsAnew(t *testing.T) {
	p, e := Start(theUnit)
	if e != api.OK {
		t.Fatalf("Start(%d): %d", theUnit, e)
	}
	p = anewBehindEach(t, p, 4)
	if p != (api.Pace{Unit: theUnit, At: 5, Left: theUnit}) {
		t.Errorf("behind four numbers: %v", p)
	}
}

func TestBeginsAnewBeyondTheLastPlace(t *testing.T) {
	for _, unit := range []int{1, 3, 20} {
		p := api.Pace{Unit: unit, At: theAt, Left: unit}
		if p = anewBehindEach(t, p, 20); p.At != 20 {
			t.Errorf("behind the last place and 19 others: %v", p)
		}
	}
}

func TestBeginsAnewAtPlacesOfTheWholeRow(t *testing.T) {
	r := numbers(5)
	for range 300 {
		at, unit := r.pick(theAt), r.pick(20)
		// A number that is too great to be ticked through is left out.
		for range 8 {
			if plainNumber(at) <= 1<<10 {
				anewBehindEach(t, api.Pace{Unit: unit, At: at, Left: unit * plainNumber(at)}, 1)
			}
			at = at%theAt + 1
		}
	}
}

func TestAllTicksAreTheSumOfTheNumbers(t *testing.T) {
	const unit, often = 3, 500
	p, _ := Start(unit)
	ticks := 0
	for anews := 0; anews < often; ticks++ {
		next, anew := Tick(p)
		if anew {
			anews++
		}
		p = next
	}
	if sum, e := Sum(often); ticks != unit*sum || e != api.OK {
		t.Errorf("%d ticks; the numbers are together %d", ticks, sum)
	}
}
