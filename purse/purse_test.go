package purse

import (
	"fmt"
	"math"
	"slices"
	"strings"
	"testing"

	"fathom/api"
)

// The chapter's numbers, written out once more: a test by the package's own would follow whatever they turn to.
const (
	theKinds = 8
	theRoom  = 4096
)

// plain is a purse as the chapter's words say.
type plain struct {
	rooms []int
	left  []int
	// last is the kind of which any took one last; -1: it took none yet.
	last int
}

// newPlain is a full one.
func newPlain(rooms []int) *plain {
	return &plain{rooms: slices.Clone(rooms), left: slices.Clone(rooms), last: -1}
}

// mayBe tells whether there is such a kind, and so many may be asked for.
func (p *plain) mayBe(kind, n int) bool {
	return kind >= 0 && kind < len(p.rooms) && n >= 0 && n <= theRoom
}

// take takes n of a kind, or none.
func (p *plain) take(kind, n int) api.Errno {
	switch {
	case !p.mayBe(kind, n):
		return api.ErrArg
	case p.left[kind] < n:
		return api.ErrOut
	}
	p.left[kind] -= n
	return api.OK
}

// give gives n of a kind, or none.
func (p *plain) give(kind, n int) api.Errno {
	switch {
	case !p.mayBe(kind, n):
		return api.ErrArg
	case p.left[kind]+n > p.rooms[kind]:
		return api.ErrFull
	}
	p.left[kind] += n
	return api.OK
}

// any takes one of the next kind that has one.
func (p *plain) any() (int, bool) {
	var order []int
	for kind := p.last + 1; kind < len(p.left); kind++ {
		order = append(order, kind)
	}
	for kind := 0; kind <= p.last; kind++ {
		order = append(order, kind)
	}
	for _, kind := range order {
		if p.left[kind] > 0 {
			p.left[kind]--
			p.last = kind
			return kind, true
		}
	}
	return 0, false
}

// count is how many tokens there are of all kinds.
func (p *plain) count() int {
	count := 0
	for _, left := range p.left {
		count += left
	}
	return count
}

// spent is how many are missing of all kinds.
func (p *plain) spent() int {
	spent := 0
	for kind, room := range p.rooms {
		spent += room - p.left[kind]
	}
	return spent
}

// wrongKinds is numbers that are no kinds of a purse that has so many.
func wrongKinds(kinds int) []int {
	return []int{math.MinInt, math.MinInt + 1, -kinds - 1, -kinds, -1, kinds, kinds + 1, 9, 1 << 32, math.MaxInt - 1, math.MaxInt}
}

// wrongCounts is numbers that are no rooms, and that nobody may take or give.
func wrongCounts() []int {
	return []int{math.MinInt, math.MinInt + 1, -theRoom, -2, -1, theRoom + 1, theRoom + 2, 1 << 16, 1 << 32, math.MaxInt - 1, math.MaxInt}
}

// twin is a purse, another one of which the same is asked, and a plain one.
type twin struct {
	t    *testing.T
	p, q *Purse
	want *plain
	log  []string
}

// made is a twin of rooms.
func made(t *testing.T, rooms ...int) *twin {
	t.Helper()
	w := &twin{t: t, want: newPlain(rooms)}
	w.note("New(%v)", rooms)
	var e, e2 api.Errno
	w.p, e = New(rooms)
	w.q, e2 = New(rooms)
	if w.p == nil || w.q == nil || w.p == w.q || e != api.OK || e2 != api.OK {
		t.Fatalf("New(%v): %v, %d", rooms, w.p, e)
	}
	w.sound()
	return w
}

// note notes what is asked.
func (w *twin) note(format string, args ...any) {
	w.log = append(w.log, fmt.Sprintf(format, args...))
}

// fail ends the test, and tells what was asked last.
func (w *twin) fail(format string, args ...any) {
	w.t.Helper()
	last := w.log[max(len(w.log)-200, 0):]
	w.t.Fatalf("%s\nof rooms %v, behind %s", fmt.Sprintf(format, args...), w.want.rooms, strings.Join(last, ", "))
}

// sound fails unless both tell what the plain one tells, and nothing of what is no kind.
func (w *twin) sound() {
	w.t.Helper()
	for _, p := range []*Purse{w.p, w.q} {
		for kind, want := range w.want.left {
			left := p.Left(kind)
			if left != want {
				w.fail("Left(%d) = %d, not %d", kind, left, want)
			}
			if left < 0 || left > w.want.rooms[kind] {
				w.fail("Left(%d) = %d, of room %d", kind, left, w.want.rooms[kind])
			}
		}
		for _, kind := range wrongKinds(len(w.want.rooms)) {
			if left := p.Left(kind); left != 0 {
				w.fail("Left(%d) = %d, though there is no such kind", kind, left)
			}
		}
		if p.Spent() != w.want.spent() {
			w.fail("Spent() = %d, not %d", p.Spent(), w.want.spent())
		}
	}
}

// answers fails unless both told this error.
func (w *twin) answers(e, e2, want api.Errno) api.Errno {
	w.t.Helper()
	if e != want || e2 != want {
		w.fail("%d, and of its like %d; not %d", e, e2, want)
	}
	w.sound()
	return want
}

// take takes what may be tokens of a kind.
func (w *twin) take(kind, n int) api.Errno {
	w.t.Helper()
	w.note("Take(%d, %d)", kind, n)
	return w.answers(w.p.Take(kind, n), w.q.Take(kind, n), w.want.take(kind, n))
}

// give gives what may be tokens of a kind.
func (w *twin) give(kind, n int) api.Errno {
	w.t.Helper()
	w.note("Give(%d, %d)", kind, n)
	return w.answers(w.p.Give(kind, n), w.q.Give(kind, n), w.want.give(kind, n))
}

// any takes a token of the next kind that has one; -1: none has.
func (w *twin) any() int {
	w.t.Helper()
	w.note("Any()")
	want, has := w.want.any()
	kind, ok := w.p.Any()
	kind2, ok2 := w.q.Any()
	if kind != want || kind2 != want || ok != has || ok2 != has {
		w.fail("%d, %v, and of its like %d, %v; not %d, %v", kind, ok, kind2, ok2, want, has)
	}
	w.sound()
	if !ok {
		return -1
	}
	return kind
}

// takes fails unless this call told this error, and so many are left of the kind.
func (w *twin) takes(kind, n int, want api.Errno, left int) {
	w.t.Helper()
	if e := w.take(kind, n); e != want || w.p.Left(kind) != left {
		w.fail("%d, and %d are left; not %d, %d", e, w.p.Left(kind), want, left)
	}
}

// gives fails unless this call told this error, and so many are left of the kind.
func (w *twin) gives(kind, n int, want api.Errno, left int) {
	w.t.Helper()
	if e := w.give(kind, n); e != want || w.p.Left(kind) != left {
		w.fail("%d, and %d are left; not %d, %d", e, w.p.Left(kind), want, left)
	}
}

// anys fails unless Any takes of these kinds, in this order; -1: of none.
func (w *twin) anys(want ...int) {
	w.t.Helper()
	for _, kind := range want {
		if got := w.any(); got != kind {
			w.fail("%d, not %d", got, kind)
		}
	}
}

// numbers is a row of numbers, the same for each seed.
type numbers uint64

// pick is the next one, from 0 to n - 1.
func (r *numbers) pick(n int) int {
	*r = *r*6364136223846793005 + 1442695040888963407
	return int(uint64(*r>>33) % uint64(n))
}

// rooms is 1 to theKinds rooms, of at most so many each; some are 0.
func (r *numbers) rooms(most int) []int {
	list := make([]int, 1+r.pick(theKinds))
	for kind := range list {
		list[kind] = r.pick(most + 1)
	}
	return list
}

// alike is a list of so many of one number.
func alike(n, number int) []int {
	return slices.Repeat([]int{number}, n)
}

func TestExample(t *testing.T) {
	w := made(t, 2, 1)
	w.takes(0, 3, api.ErrOut, 2)
	w.anys(0, 1, 0, -1)
	if w.p.Spent() != 3 {
		t.Errorf("%d are spent", w.p.Spent())
	}
}

func TestNewIsFull(t *testing.T) {
	for _, room := range []int{0, 1, 2, 3, 4, 100, theRoom - 1, theRoom} {
		for kinds := 1; kinds <= theKinds; kinds++ {
			for kind := range kinds {
				rooms := alike(kinds, 5)
				rooms[kind] = room
				w := made(t, rooms...)
				if w.p.Left(kind) != room || w.p.Spent() != 0 {
					t.Errorf("of %v: %d of %d are left, %d are spent", rooms, w.p.Left(kind), kind, w.p.Spent())
				}
				for _, one := range []*Purse{w.p, w.q} {
					if e := one.Give(kind, 1); e != api.ErrFull {
						t.Errorf("of %v: one more of %d: %d", rooms, kind, e)
					}
				}
			}
		}
	}
}

func TestNewOfMostOfAll(t *testing.T) {
	w := made(t, alike(theKinds, theRoom)...)
	for kind := range theKinds {
		if w.p.Left(kind) != theRoom {
			t.Errorf("of %d %d are left", kind, w.p.Left(kind))
		}
		w.takes(kind, theRoom, api.OK, 0)
	}
	if w.p.Spent() != theKinds*theRoom {
		t.Errorf("%d are spent", w.p.Spent())
	}
	w.anys(-1)
	for kind := range theKinds {
		w.gives(kind, theRoom, api.OK, theRoom)
	}
	if w.p.Spent() != 0 {
		t.Errorf("%d are spent", w.p.Spent())
	}
}

// isNone fails if New gives a purse of these rooms.
func isNone(t *testing.T, rooms []int) {
	t.Helper()
	if p, e := New(rooms); p != nil || e != api.ErrArg {
		t.Errorf("New of %d rooms: %v, %d", len(rooms), p, e)
	}
}

func TestNewOfNotSoManyKinds(t *testing.T) {
	isNone(t, nil)
	isNone(t, []int{})
	isNone(t, make([]int, 0, theKinds))
	for _, kinds := range []int{theKinds + 1, theKinds + 2, 2 * theKinds, 256, theRoom, 1 << 16, 1 << 20} {
		for _, room := range []int{0, 1, theRoom, -1} {
			isNone(t, alike(kinds, room))
		}
	}
}

func TestNewOfWhatIsNoRoom(t *testing.T) {
	for _, wrong := range wrongCounts() {
		for kinds := 1; kinds <= theKinds; kinds++ {
			for kind := range kinds {
				for _, others := range []int{0, 1, theRoom} {
					rooms := alike(kinds, others)
					rooms[kind] = wrong
					isNone(t, rooms)
				}
			}
			isNone(t, alike(kinds, wrong))
		}
	}
}

func TestNewNeitherWritesNorKeeps(t *testing.T) {
	all := []int{7, 2, 0, 3, 9}
	rooms := all[1:4]
	p, e := New(rooms)
	if e != api.OK || !slices.Equal(all, []int{7, 2, 0, 3, 9}) {
		t.Fatalf("%d, %v", e, all)
	}
	for i := range all {
		all[i] = 100
	}
	if p.Left(0) != 2 || p.Left(1) != 0 || p.Left(2) != 3 || p.Left(3) != 0 || p.Spent() != 0 {
		t.Error("what is left hangs on the list")
	}
	if p.Give(0, 1) != api.ErrFull || p.Take(2, 3) != api.OK || p.Spent() != 3 || p.Give(2, 4) != api.ErrFull {
		t.Error("what there is room for hangs on the list")
	}
	if !slices.Equal(all, alike(5, 100)) {
		t.Errorf("a call writes: %v", all)
	}
}

func TestPursesShareNothing(t *testing.T) {
	rooms := []int{3, 3}
	p, _ := New(rooms)
	q, _ := New(rooms)
	p.Take(0, 2)
	p.Any()
	if p.Spent() != 3 || q.Spent() != 0 || q.Left(0) != 3 || q.Left(1) != 3 {
		t.Errorf("spent are %d, and of the other %d", p.Spent(), q.Spent())
	}
	if kind, ok := q.Any(); kind != 0 || !ok {
		t.Errorf("the other's Any takes of %d, %v", kind, ok)
	}
	if q.Give(0, 1) != api.OK || p.Left(0) != 0 {
		t.Error("what is given to the other")
	}
}

func TestLeftOfNoKind(t *testing.T) {
	for kinds := 1; kinds <= theKinds; kinds++ {
		p, _ := New(alike(kinds, theRoom))
		for _, kind := range wrongKinds(kinds) {
			if p.Left(kind) != 0 {
				t.Errorf("of %d kinds: Left(%d) = %d", kinds, kind, p.Left(kind))
			}
		}
		if p.Left(kinds-1) != theRoom {
			t.Errorf("of %d kinds: of the last one %d", kinds, p.Left(kinds-1))
		}
	}
}

func TestTake(t *testing.T) {
	w := made(t, 5, 0, 1, theRoom)
	w.takes(0, 0, api.OK, 5)
	w.takes(0, 2, api.OK, 3)
	w.takes(0, 4, api.ErrOut, 3)
	w.takes(0, 5, api.ErrOut, 3)
	w.takes(0, theRoom, api.ErrOut, 3)
	w.takes(0, 3, api.OK, 0)
	w.takes(0, 0, api.OK, 0)
	w.takes(0, 1, api.ErrOut, 0)
	w.takes(1, 0, api.OK, 0)
	w.takes(1, 1, api.ErrOut, 0)
	w.takes(1, theRoom, api.ErrOut, 0)
	w.takes(2, 2, api.ErrOut, 1)
	w.takes(2, 1, api.OK, 0)
	w.takes(2, 1, api.ErrOut, 0)
	if w.p.Spent() != 6 {
		t.Errorf("%d are spent", w.p.Spent())
	}
	w.takes(3, 1, api.OK, theRoom-1)
	w.takes(3, theRoom, api.ErrOut, theRoom-1)
	w.takes(3, theRoom-1, api.OK, 0)
	if w.p.Spent() != 6+theRoom {
		t.Errorf("%d are spent", w.p.Spent())
	}
}

func TestGive(t *testing.T) {
	w := made(t, 5, 0, 1, theRoom)
	for kind, room := range []int{5, 0, 1, theRoom} {
		w.gives(kind, 0, api.OK, room)
		w.gives(kind, 1, api.ErrFull, room)
		w.gives(kind, theRoom, api.ErrFull, room)
	}
	w.take(0, 5)
	w.gives(0, 6, api.ErrFull, 0)
	w.gives(0, theRoom, api.ErrFull, 0)
	w.gives(0, 2, api.OK, 2)
	w.gives(0, 4, api.ErrFull, 2)
	w.gives(0, 0, api.OK, 2)
	w.gives(0, 3, api.OK, 5)
	w.gives(0, 1, api.ErrFull, 5)
	w.take(2, 1)
	w.gives(2, 2, api.ErrFull, 0)
	w.gives(2, 1, api.OK, 1)
	w.take(3, 1)
	w.gives(3, theRoom, api.ErrFull, theRoom-1)
	w.gives(3, 2, api.ErrFull, theRoom-1)
	w.gives(3, 1, api.OK, theRoom)
	w.take(3, theRoom)
	w.gives(3, theRoom, api.OK, theRoom)
	if w.p.Spent() != 0 {
		t.Errorf("%d are spent", w.p.Spent())
	}
}

// Of rooms up to theRoom, of what is left and of what is missing: one less than that, just that, and one more.
func TestEachEdge(t *testing.T) {
	for _, room := range []int{0, 1, 2, 3, 4, 7, 64, theRoom - 1, theRoom} {
		for _, left := range []int{0, 1, 2, room / 2, room - 2, room - 1, room} {
			if left < 0 || left > room {
				continue
			}
			for _, n := range []int{0, 1, left - 1, left, left + 1, room - left - 1, room - left, room - left + 1, room, room + 1, theRoom} {
				w := made(t, 9, room, 9)
				w.takes(1, room-left, api.OK, left)
				w.take(1, n)
				w.give(1, n)
				w.give(1, n)
				w.take(1, n)
				if w.p.Left(0) != 9 || w.p.Left(2) != 9 {
					t.Fatal("other kinds have changed")
				}
			}
		}
	}
}

func TestWrongKinds(t *testing.T) {
	for kinds := 1; kinds <= theKinds; kinds++ {
		w := made(t, alike(kinds, 4)...)
		for kind := range kinds {
			w.take(kind, 2)
		}
		for _, kind := range wrongKinds(kinds) {
			// Of 5 and of more there are too few, and there is no room: there is no such kind, all the same.
			for _, n := range append(wrongCounts(), 0, 1, 5, theRoom) {
				w.takes(kind, n, api.ErrArg, 0)
				w.gives(kind, n, api.ErrArg, 0)
			}
		}
		if w.p.Spent() != 2*kinds {
			t.Errorf("%d are spent", w.p.Spent())
		}
	}
}

func TestWrongCounts(t *testing.T) {
	for _, room := range []int{0, 1, 6, theRoom} {
		for _, left := range []int{0, room / 2, room} {
			w := made(t, room, 1, room)
			for _, kind := range []int{0, 2} {
				w.takes(kind, room-left, api.OK, left)
				// More than theRoom are also more than there are, or than there is room for: it is ErrArg.
				for _, n := range wrongCounts() {
					w.takes(kind, n, api.ErrArg, left)
					w.gives(kind, n, api.ErrArg, left)
				}
			}
			if w.p.Left(1) != 1 {
				t.Error("another kind has changed")
			}
		}
	}
}

func TestKindsAreApart(t *testing.T) {
	rooms := []int{10, 11, 12, 13, 14, 15, 16, 17}
	for kind, room := range rooms {
		w := made(t, rooms...)
		w.takes(kind, room, api.OK, 0)
		for other, want := range rooms {
			if other != kind && w.p.Left(other) != want {
				t.Errorf("what is taken of %d leaves %d of %d", kind, w.p.Left(other), other)
			}
		}
		if w.p.Spent() != room {
			t.Errorf("%d are spent", w.p.Spent())
		}
	}
}

func TestAnyGoesRound(t *testing.T) {
	w := made(t, 2, 3, 2)
	w.anys(0, 1, 2, 0, 1, 2, 1, -1)
	w = made(t, alike(theKinds, 2)...)
	w.anys(0, 1, 2, 3, 4, 5, 6, 7, 0, 1, 2, 3, 4, 5, 6, 7, -1)
}

func TestAnyOfOneKind(t *testing.T) {
	w := made(t, 3)
	w.anys(0, 0, 0, -1, -1)
	w.give(0, 1)
	w.anys(0, -1)
	made(t, 0).anys(-1, -1)
}

func TestAnyPassesKindsWithoutTokens(t *testing.T) {
	w := made(t, 0, 2, 0, 0, 1, 0)
	w.anys(1, 4, 1, -1)
	w = made(t, 0, 0, 0, 0, 0, 0, 0, 2)
	w.anys(7, 7, -1)
	w = made(t, 2, 1, 2)
	w.take(1, 1)
	w.anys(0, 2, 0)
	w.give(1, 1)
	w.anys(1, 2, -1)
}

func TestAnyWhereOnlyTheLastHasOne(t *testing.T) {
	for kinds := 1; kinds <= theKinds; kinds++ {
		for kind := range kinds {
			rooms := alike(kinds, 0)
			rooms[kind] = 3
			w := made(t, rooms...)
			w.anys(kind, kind, kind, -1)
			w.give(kind, 2)
			w.anys(kind, kind, -1)
		}
	}
}

func TestAnyWhereNoneHasOne(t *testing.T) {
	w := made(t, 1, 1, 1)
	w.anys(0, 1)
	w.take(2, 1)
	w.anys(-1, -1, -1)
	// What took none moves nothing: it goes on behind 1.
	for kind := range 3 {
		w.give(kind, 1)
	}
	w.anys(2, 0, 1, -1)
	w = made(t, 1, 1)
	w.take(0, 1)
	w.take(1, 1)
	w.anys(-1)
	w.give(0, 1)
	w.give(1, 1)
	w.anys(0, 1, -1)
}

func TestTakeAndGiveDoNotMoveAny(t *testing.T) {
	w := made(t, 4, 4, 4)
	w.take(1, 1)
	w.give(1, 1)
	w.take(2, 2)
	w.anys(0)
	w.take(2, 1)
	w.give(0, 1)
	w.take(0, 5)
	w.give(2, 4)
	w.take(3, 1)
	w.take(1, -1)
	w.anys(1)
	w.give(1, 1)
	w.take(1, 2)
	w.anys(2, 0)
}

// askAll asks Any as often as there are tokens: it takes all.
func (w *twin) askAll() {
	w.t.Helper()
	want := slices.Clone(w.want.left)
	got := alike(len(want), 0)
	for range w.want.count() {
		kind := w.any()
		if kind < 0 {
			w.fail("there are tokens, and Any takes none")
		}
		got[kind]++
	}
	if !slices.Equal(got, want) {
		w.fail("Any takes %v, of %v", got, want)
	}
	w.anys(-1)
}

func TestAnyTakesAll(t *testing.T) {
	made(t, 0, 0).askAll()
	made(t, 7).askAll()
	r := numbers(3)
	for range 300 {
		w := made(t, r.rooms(12)...)
		for kind, room := range w.want.rooms {
			w.take(kind, r.pick(room+1))
		}
		for range r.pick(4) {
			w.any()
		}
		w.askAll()
	}
}

func TestAnyTakesAllOfMost(t *testing.T) {
	p, _ := New(alike(theKinds, theRoom))
	for i := range theKinds * theRoom {
		if kind, ok := p.Any(); kind != i%theKinds || !ok {
			t.Fatalf("Any for the %d-th time: %d, %v", i, kind, ok)
		}
	}
	if kind, ok := p.Any(); kind != 0 || ok || p.Spent() != theKinds*theRoom {
		t.Errorf("of none: %d, %v; %d are spent", kind, ok, p.Spent())
	}
}

// Of two kinds that have tokens all along, Any takes by turns, whatever becomes of the others in between.
func TestAnyTakesByTurns(t *testing.T) {
	r := numbers(5)
	for range 300 {
		rooms := r.rooms(3)
		if len(rooms) < 2 {
			rooms = append(rooms, 0)
		}
		one := r.pick(len(rooms))
		other := (one + 1 + r.pick(len(rooms)-1)) % len(rooms)
		rooms[one], rooms[other] = 60, 60
		w := made(t, rooms...)
		last := -1
		for range 50 {
			if kind := r.pick(len(rooms)); kind != one && kind != other {
				w.take(kind, r.pick(3))
				w.give(kind, r.pick(3))
			}
			kind := w.any()
			if kind != one && kind != other {
				continue
			}
			if kind == last {
				w.fail("of %d and %d, %d is taken twice", one, other, kind)
			}
			last = kind
		}
		if gap := w.p.Left(one) - w.p.Left(other); gap < -1 || gap > 1 || last < 0 {
			w.fail("of %d and %d there are %d and %d", one, other, w.p.Left(one), w.p.Left(other))
		}
	}
}

// isNobody fails unless every call tells that New did not give it.
func isNobody(t *testing.T, p *Purse) {
	t.Helper()
	list := slices.Concat(wrongCounts(), wrongKinds(2), []int{0, 1, 2, theRoom})
	for _, kind := range list {
		for _, n := range list {
			if e := p.Take(kind, n); e != api.ErrArg {
				t.Errorf("Take(%d, %d): %d", kind, n, e)
			}
			if e := p.Give(kind, n); e != api.ErrArg {
				t.Errorf("Give(%d, %d): %d", kind, n, e)
			}
		}
		if p.Left(kind) != 0 {
			t.Errorf("Left(%d) = %d", kind, p.Left(kind))
		}
	}
	if kind, ok := p.Any(); kind != 0 || ok {
		t.Errorf("Any() = %d, %v", kind, ok)
	}
	if p.Spent() != 0 {
		t.Errorf("Spent() = %d", p.Spent())
	}
}

func TestNotGivenByNew(t *testing.T) {
	isNobody(t, nil)
	isNobody(t, &Purse{})
	isNobody(t, new(Purse))
	w := made(t, 3, 3)
	w.any()
	w.take(1, 2)
	copied := *w.p
	isNobody(t, &copied)
	w.sound()
	w.anys(1, 0, 0, -1)
}

// ask asks for something, mostly for what may be.
func (w *twin) ask(r *numbers, most int) {
	w.t.Helper()
	kind, n := r.pick(len(w.want.rooms)), r.pick(most+2)
	switch r.pick(12) {
	case 0:
		wrong := wrongKinds(len(w.want.rooms))
		kind = wrong[r.pick(len(wrong))]
	case 1:
		wrong := wrongCounts()
		n = wrong[r.pick(len(wrong))]
	case 2:
		n = w.want.left[kind] + r.pick(2)
	case 3:
		n = w.want.rooms[kind] - w.want.left[kind] + r.pick(2)
	case 4:
		n = theRoom
	}
	switch r.pick(3) {
	case 0:
		w.take(kind, n)
	case 1:
		w.give(kind, n)
	default:
		w.any()
	}
}

func TestManyRows(t *testing.T) {
	for i, most := range []int{1, 2, 3, 5, 9, 20, 100, theRoom} {
		r := numbers(i)
		for range 120 {
			w := made(t, r.rooms(most)...)
			for range 150 {
				w.ask(&r, min(most, 12))
			}
			w.ask(&r, most)
			// The kind of which Any took last is told by what it takes next.
			for kind, room := range w.want.rooms {
				w.give(kind, room-w.want.left[kind])
			}
			for range 2 * theKinds {
				w.any()
			}
		}
	}
}

// calls is all calls of a small purse that tell it from others.
func calls(kinds, most int) []func(*twin) {
	list := []func(*twin){func(w *twin) { w.any() }}
	for kind := range kinds {
		for n := 1; n <= most; n++ {
			list = append(list, func(w *twin) { w.take(kind, n) }, func(w *twin) { w.give(kind, n) })
		}
	}
	return list
}

func TestAllShortRows(t *testing.T) {
	for _, rooms := range [][]int{{0}, {1}, {2}, {0, 0}, {0, 1}, {1, 0}, {1, 1}, {2, 1}, {1, 2}, {0, 1, 1}, {1, 0, 1}, {1, 1, 0}, {1, 1, 1}} {
		most := slices.Max(rooms)
		list := calls(len(rooms), most+1)
		size := 5
		if len(list) > 10 {
			size = 4
		}
		rows := 1
		for range size {
			rows *= len(list)
		}
		for row := range rows {
			w := made(t, rooms...)
			for rest, i := row, 0; i < size; rest, i = rest/len(list), i+1 {
				list[rest%len(list)](w)
			}
			w.any()
		}
	}
}
