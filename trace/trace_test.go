package trace

import (
	"math"
	"regexp"
	"slices"
	"strconv"
	"strings"
	"testing"

	"fathom/api"
	"fathom/dimacs"
)

const top = api.MaxVar

// add is a step whose clause follows.
func add(c ...int) api.Step {
	return api.Step{Lits: c}
}

// del is a step whose clause goes.
func del(c ...int) api.Step {
	return api.Step{Del: true, Lits: c}
}

// proof is these steps.
func proof(steps ...api.Step) []api.Step {
	return steps
}

// alike tells whether steps are alike, one by one, apart from Same.
func alike(a, b []api.Step) bool {
	if len(a) != len(b) {
		return false
	}
	for i := range a {
		if a[i].Del != b[i].Del || !slices.Equal(a[i].Lits, b[i].Lits) {
			return false
		}
	}
	return true
}

// reads fails unless a text is read as this proof.
func reads(t *testing.T, text string, want []api.Step) {
	t.Helper()
	l, at, e := Read([]byte(text))
	if e != api.OK || at != 0 || !alike(l, want) {
		t.Errorf("Read(%s) = %s, %d, %d; not %s", short(text), tell(l), at, e, tell(want))
	}
}

// wrong fails unless a text is wrong there, by that error.
func wrong(t *testing.T, text string, at int, e api.Errno) {
	t.Helper()
	l, gotAt, got := Read([]byte(text))
	if got != e || gotAt != at || l != nil {
		t.Errorf("Read(%s) = %s, %d, %d; not %d, %d", short(text), tell(l), gotAt, got, at, e)
	}
}

// short is a text, or, of a long one, its beginning and its length.
func short(text string) string {
	if len(text) > 200 {
		return strconv.Quote(text[:200]) + " .. of " + strconv.Itoa(len(text)) + " bytes"
	}
	return strconv.Quote(text)
}

// tell is a proof for people's eyes, and of a great one only its beginning.
func tell(l []api.Step) string {
	s := strconv.Itoa(len(l)) + " steps"
	for _, x := range l[:min(len(l), 5)] {
		s += ", " + map[bool]string{false: "follows", true: "goes"}[x.Del] + ", " + strconv.Itoa(len(x.Lits)) + " literals:"
		for _, n := range x.Lits[:min(len(x.Lits), 5)] {
			s += " " + strconv.Itoa(n)
		}
	}
	return s
}

// padded is a text of size bytes: what stands ahead, a byte again and again, and what stands behind.
func padded(ahead, with, behind string, size int) string {
	return ahead + strings.Repeat(with, size-len(ahead)-len(behind)) + behind
}

// noClauses is lists that are no clauses.
func noClauses() [][]int {
	return [][]int{
		{0}, {1, 0}, {0, 1}, {1, 2, 0, 3},
		{top + 1}, {-top - 1}, {1, top + 1}, {math.MaxInt}, {math.MinInt}, {1, math.MinInt, 2},
		slices.Repeat([]int{1}, api.MaxWide+1), slices.Repeat([]int{-top}, 2*api.MaxWide),
	}
}

// noProofs is lists that are no proofs.
func noProofs() [][]api.Step {
	bad := [][]api.Step{
		slices.Repeat(proof(add()), api.MaxSteps+1),
		slices.Repeat(proof(del(1)), api.MaxSteps+1),
		slices.Repeat(proof(add(1)), 2*api.MaxSteps),
		append(slices.Repeat(proof(add(1)), api.MaxSteps-1), del(0)),
	}
	for _, c := range noClauses() {
		bad = append(bad, proof(add(c...)), proof(del(c...)), proof(add(1), add(c...)), proof(del(c...), add(1)), proof(add(), del(c...), add()))
	}
	return bad
}

func TestCheck(t *testing.T) {
	wide := slices.Repeat([]int{1, -1}, api.MaxWide/2)
	good := [][]api.Step{
		nil, {}, proof(add()), proof(del()), proof(add(1)), proof(del(-1)), proof(add(1, -2), del(1)),
		proof(add(1, 1, -1)), proof(add(), add(), del(), del()), {{Lits: []int{}}},
		proof(add(top), del(-top), add(top, -top)),
		proof(add(wide...), del(wide...)),
		slices.Repeat(proof(add()), api.MaxSteps), slices.Repeat(proof(del(1, 2)), api.MaxSteps),
	}
	for i, l := range good {
		if e := Check(l); e != api.OK {
			t.Errorf("proof %d: %d", i, e)
		}
	}
	for i, l := range noProofs() {
		if e := Check(l); e != api.ErrArg {
			t.Errorf("no proof %d: %d", i, e)
		}
	}
}

func TestPrint(t *testing.T) {
	tests := []struct {
		l    []api.Step
		want string
	}{
		{nil, ""},
		{proof(), ""},
		{proof(add()), "0\n"},
		{proof(del()), "d 0\n"},
		{proof(api.Step{Lits: []int{}}, api.Step{Del: true, Lits: []int{}}), "0\nd 0\n"},
		{proof(add(1, -2), del(1)), "1 -2 0\nd 1 0\n"},
		{proof(del(1), del(1), add(-1), add(-1)), "d 1 0\nd 1 0\n-1 0\n-1 0\n"},
		{proof(add(3, -1, 3, 1), add(), del(-2)), "3 -1 3 1 0\n0\nd -2 0\n"},
		{proof(add(top, -top), del(-top), add(10, -100)), "1048576 -1048576 0\nd -1048576 0\n10 -100 0\n"},
	}
	for _, x := range tests {
		if b, e := Print(x.l); e != api.OK || string(b) != x.want {
			t.Errorf("Print(%s) = %q, %d", tell(x.l), b, e)
		}
	}
}

func TestPrintOfNoProof(t *testing.T) {
	// Too long, too: what is named first is told.
	long := slices.Repeat(proof(add(slices.Repeat([]int{1}, 16)...)), api.MaxSteps-1)
	for i, l := range append(noProofs(), append(long, add(0)), append(long, add(1), add(1))) {
		if b, e := Print(l); e != api.ErrArg || b != nil {
			t.Errorf("no proof %d: %d bytes, %d", i, len(b), e)
		}
	}
}

// longest is a proof whose text has just MaxText bytes; its literals are 1, and its steps follow.
func longest() []api.Step {
	const steps = 512
	// Two bytes for each literal, and for the 0.
	rest := api.MaxText - (steps-1)*2*(api.MaxWide+1)
	var l []api.Step
	for range steps - 1 {
		l = append(l, add(slices.Repeat([]int{1}, api.MaxWide)...))
	}
	return append(l, add(slices.Repeat([]int{1}, rest/2-1)...))
}

func TestPrintOfLongTexts(t *testing.T) {
	l := longest()
	b, e := Print(l)
	if e != api.OK || len(b) != api.MaxText {
		t.Fatalf("%d bytes, %d", len(b), e)
	}
	reads(t, string(b), l)
	tooLong := func(l []api.Step) {
		t.Helper()
		if b, e := Print(l); e != api.ErrLong || b != nil {
			t.Errorf("%s: %d bytes, %d", tell(l), len(b), e)
		}
	}
	last := len(l) - 1
	l[last].Lits[0] = -1
	tooLong(l)
	l[last].Lits[0] = 1
	l[0].Lits[7] = -1
	tooLong(l)
	l[0].Lits[7] = 1
	l[last].Del = true
	tooLong(l)
	// A d and its blank take just as much as a literal.
	l[last].Lits = l[last].Lits[1:]
	if b, e := Print(l); e != api.OK || len(b) != api.MaxText {
		t.Errorf("one that goes: %d bytes, %d", len(b), e)
	}
	l[last] = add(append(l[last].Lits, 1)...)
	tooLong(append(l, add()))
	tooLong(slices.Repeat(proof(add(slices.Repeat([]int{1}, 16)...)), api.MaxSteps))
	tooLong(slices.Repeat(proof(del(slices.Repeat([]int{-top}, api.MaxWide)...)), 4096))
}

func TestCount(t *testing.T) {
	tests := []struct {
		l          []api.Step
		adds, dels int
	}{
		{nil, 0, 0}, {proof(), 0, 0}, {proof(add()), 1, 0}, {proof(del()), 0, 1},
		{proof(add(1, -2), del(1)), 1, 1}, {proof(del(1), del(1), add(2), del(1), add()), 2, 3},
		{slices.Repeat(proof(add(1)), api.MaxSteps), api.MaxSteps, 0},
		{slices.Repeat(proof(del(1)), api.MaxSteps), 0, api.MaxSteps},
		{slices.Repeat(proof(add(), del(), add()), 1000), 2000, 1000},
		// The chapter tells of no error: what is no proof is counted, too.
		{proof(add(0), del(math.MinInt)), 1, 1},
		{slices.Repeat(proof(add(), del()), api.MaxSteps), api.MaxSteps, api.MaxSteps},
	}
	for _, x := range tests {
		if adds, dels := Count(x.l); adds != x.adds || dels != x.dels {
			t.Errorf("Count(%s) = %d, %d", tell(x.l), adds, dels)
		}
	}
}

func TestSame(t *testing.T) {
	// Each unlike all others.
	lists := [][]api.Step{
		nil,
		proof(add()), proof(del()), proof(add(), add()), proof(add(), del()), proof(del(), add()), proof(del(), del()),
		proof(add(1)), proof(add(-1)), proof(add(2)), proof(del(1)), proof(add(1, 1)), proof(add(1), add(1)), proof(add(1), add()), proof(add(), add(1)),
		proof(add(1, -2), del(1)), proof(add(-2, 1), del(1)), proof(add(1, -2), add(1)), proof(del(1, -2), del(1)), proof(add(1, -2), del(-1)), proof(add(1, -2)), proof(add(1, -2), del(1), add()), proof(del(1), add(1, -2)), proof(add(1), add(-2), del(1)),
		proof(add(top)), proof(add(-top)),
		// No proofs, but lists.
		proof(add(0)), proof(add(math.MinInt)), proof(add(math.MaxInt)),
		slices.Repeat(proof(add()), api.MaxSteps), slices.Repeat(proof(add()), api.MaxSteps+1),
		append(slices.Repeat(proof(add()), api.MaxSteps-1), del()),
	}
	for i, a := range lists {
		for j, b := range lists {
			// Other memory than a's.
			b = slices.Clone(b)
			for k := range b {
				b[k].Lits = slices.Clone(b[k].Lits)
			}
			if Same(a, b) != (i == j) {
				t.Errorf("Same(%s; %s) = %v", tell(a), tell(b), i != j)
			}
		}
	}
	if !Same(nil, proof()) || !Same(proof(add()), proof(api.Step{Lits: []int{}})) {
		t.Error("nil and empty lists are alike")
	}
	wide := slices.Repeat([]int{1, 2}, api.MaxWide/2)
	other := slices.Clone(wide)
	other[api.MaxWide-1] = -2
	if !Same(proof(add(wide...)), proof(add(slices.Clone(wide)...))) || Same(proof(add(wide...)), proof(add(other...))) || Same(proof(add(wide...)), proof(add(wide[1:]...))) {
		t.Error("wide clauses")
	}
}

func TestRead(t *testing.T) {
	two := proof(add(1, -2), del(1))
	for _, text := range []string{
		"1 -2 0 d 1 0",
		"1 -2 0\nd 1 0\n",
		"1 -2 0\nd 1 0",
		// Steps over several lines.
		"1\n-2\n0\nd\n1\n0\n", "1\n-2 0 d\n1 0", "1 -2\n0 d 1\n0", "1 -2 0 d\n1 0\n",
		// All that parts words, one by one, in rows, and at both ends.
		"1\t-2\t0\td\t1\t0", "1\r-2\r0\rd\r1\r0", "1 -2\t0\nd\r1 0", "1 -2 0\r\nd 1 0\r\n", "1 -2 0\rd 1 0\r", "1 -2 0\n\rd 1 0\n\r",
		" 1 -2 0 d 1 0", "\t1 -2 0 d 1 0", "\n1 -2 0 d 1 0", "\r1 -2 0 d 1 0",
		"1 -2 0 d 1 0 ", "1 -2 0 d 1 0\t", "1 -2 0 d 1 0\n", "1 -2 0 d 1 0\r",
		"1  -2  0  d  1  0", " \t\r\n 1 \t\r\n -2\n\n\n0\t\td\r\r1\n \n0 \t\r\n \n\n", "\n\n\n1 -2\n\n0\n\n\nd\n\n1\n\n0\n\n",
	} {
		reads(t, text, two)
	}
	tests := []struct {
		text string
		want []api.Step
	}{
		{"", nil}, {" ", nil}, {"\n", nil}, {"\t", nil}, {"\r", nil}, {" \t\r\n\n ", nil},
		{"0", proof(add())}, {"0\n", proof(add())}, {"d 0", proof(del())}, {"d\n0\n", proof(del())}, {" d\t0 ", proof(del())},
		{"0 0 0", proof(add(), add(), add())}, {"d 0 d 0", proof(del(), del())}, {"0 d 0 0", proof(add(), del(), add())},
		{"1 0", proof(add(1))}, {"d 1 0", proof(del(1))}, {"-1 0", proof(add(-1))}, {"d -1 0", proof(del(-1))},
		{"1 0 2 0", proof(add(1), add(2))}, {"d 1 0 d 2 0", proof(del(1), del(2))}, {"d 1 0 2 0 d 3 0 4 0", proof(del(1), add(2), del(3), add(4))},
		{"1 1 -1 0", proof(add(1, 1, -1))}, {"12 -345 6789 0", proof(add(12, -345, 6789))},
		{"1048576 -1048576 0 d -1048576 1048575 0", proof(add(top, -top), del(-top, top-1))},
		// What follows an empty clause is read like any other.
		{"0 1 0 0 d 1 0", proof(add(), add(1), add(), del(1))},
	}
	for _, x := range tests {
		reads(t, x.text, x.want)
	}
}

func TestReadOfMany(t *testing.T) {
	reads(t, strings.Repeat("0\n", api.MaxSteps), slices.Repeat(proof(add()), api.MaxSteps))
	reads(t, strings.Repeat("d 0 ", api.MaxSteps), slices.Repeat(proof(del()), api.MaxSteps))
	reads(t, strings.Repeat("-1 0 d 7 0\n", api.MaxSteps/2), slices.Repeat(proof(add(-1), del(7)), api.MaxSteps/2))
	reads(t, strings.Repeat("1 ", api.MaxWide)+"0\nd "+strings.Repeat("-2\n", api.MaxWide)+"0",
		proof(add(slices.Repeat([]int{1}, api.MaxWide)...), del(slices.Repeat([]int{-2}, api.MaxWide)...)))
	full := strings.Repeat(strconv.Itoa(-top)+" ", api.MaxWide) + "0\n"
	reads(t, strings.Repeat(full, 100), slices.Repeat(proof(add(slices.Repeat([]int{-top}, api.MaxWide)...)), 100))
}

func TestReadOfLongTexts(t *testing.T) {
	one := proof(del(1))
	text := "d 1 0"
	for _, with := range []string{" ", "\t", "\n", "\r"} {
		reads(t, padded(text, with, "", api.MaxText), one)
		reads(t, padded("", with, text, api.MaxText), one)
		reads(t, padded(text[:1], with, text[1:], api.MaxText), one)
		reads(t, padded(text[:4], with, text[4:], api.MaxText), one)
		reads(t, padded("", with, "", api.MaxText), nil)
		wrong(t, padded(text[:1], with, "", api.MaxText), api.MaxText, api.ErrText)
		wrong(t, padded(text[:3], with, "", api.MaxText), api.MaxText, api.ErrText)
		wrong(t, padded(text, with, "x", api.MaxText), api.MaxText-1, api.ErrText)
		for _, more := range []int{1, 2, 1000} {
			wrong(t, padded(text, with, "", api.MaxText+more), 0, api.ErrLong)
			wrong(t, padded("", with, "", api.MaxText+more), 0, api.ErrLong)
			// Named ahead of what is wrong in it.
			wrong(t, padded(" x", with, "", api.MaxText+more), 0, api.ErrLong)
		}
	}
	wrong(t, padded("", "x", "", api.MaxText), 0, api.ErrText)
	wrong(t, padded(text+" ", "1", "", api.MaxText), len(text)+1, api.ErrText)
	wrong(t, padded(text+" ", "d", " 0", api.MaxText), len(text)+1, api.ErrText)
	wrong(t, strings.Repeat("0 ", api.MaxText/2)+"0", 0, api.ErrLong)
}

func TestReadOfWrongWords(t *testing.T) {
	words := []string{
		// No numbers.
		"x", "c", "p", "a", "D", "-", "+", "+1", "+0", "-0", "00", "01", "-00", "-01", "0000000001", "--1", "1-", "1-2", "- ", "10000000000", "-10000000000", "9223372036854775808",
		"1x", "x1", "0x", "0x1", "1.", "1.0", "1_0", "1e3", "%", "/", ":", ",", "1,2", "\x00", "1\x00", "\xff", "1\xff", "\u0661", "\u2212", "\v", "\f", "1\v0", "1\f0", "\u0085", "\u00a0", "1\u00a00", "\u2028", "\ufeff",
		// A d with something in the same word.
		"dd", "d1", "d0", "d-1", "-d", "1d", "0d", "d,", "d\x00", "d\v", "del", "ddd",
		// Numbers that are no literals.
		"1048577", "-1048577", "2000000", "-2000000", "9999999999", "-9999999999",
	}
	for _, w := range words {
		wrong(t, w, 0, api.ErrText)
		wrong(t, w+" 0", 0, api.ErrText)
		wrong(t, w+" 1 0\n2 0\n", 0, api.ErrText)
		wrong(t, " \t\r\n"+w+"\n0", 4, api.ErrText)
		wrong(t, "1 "+w+" 0\n", 2, api.ErrText)
		wrong(t, "1 0\n1\n \t1\t"+w+"\t", 10, api.ErrText)
		wrong(t, "1 0 "+w, 4, api.ErrText)
		wrong(t, "0\r\n\r\n"+w+"\r\n0\r\n", 5, api.ErrText)
		wrong(t, "d "+w, 2, api.ErrText)
		wrong(t, "d  "+w+" 0", 3, api.ErrText)
		wrong(t, "d 1 "+w+" 0", 4, api.ErrText)
		wrong(t, "d 1 0 d 1 0\nd\n"+w, 14, api.ErrText)
	}
}

func TestReadOfEachByte(t *testing.T) {
	for c := range 256 {
		text := "1 0 " + string([]byte{byte(c)}) + " 0"
		switch {
		case strings.ContainsRune(" \t\n\r", rune(c)):
			reads(t, text, proof(add(1), add()))
		case c == '0':
			reads(t, text, proof(add(1), add(), add()))
		case '1' <= c && c <= '9':
			reads(t, text, proof(add(1), add(c-'0')))
		case c == 'd':
			reads(t, text, proof(add(1), del()))
		default:
			wrong(t, text, 4, api.ErrText)
		}
	}
}

func TestReadOfWrongDs(t *testing.T) {
	// Not at a step's beginning.
	wrong(t, "1 d 0", 2, api.ErrText)
	wrong(t, "1 d 0 0", 2, api.ErrText)
	wrong(t, "1\nd 2 0\n", 2, api.ErrText)
	wrong(t, "1 2 -3 \t\nd", 9, api.ErrText)
	wrong(t, "0 1 d 2 0", 4, api.ErrText)
	wrong(t, "d 1 d 0", 4, api.ErrText)
	wrong(t, "1 0 d 1 0 2 d", 12, api.ErrText)
	// A second one.
	wrong(t, "d d", 2, api.ErrText)
	wrong(t, "d d 1 0", 2, api.ErrText)
	wrong(t, "d\nd 0", 2, api.ErrText)
	wrong(t, "1 0 d \r d d 0", 8, api.ErrText)
	wrong(t, "d d d 0", 2, api.ErrText)
}

func TestReadOfWideClauses(t *testing.T) {
	for _, ahead := range []string{"", "d ", "1 0 ", "0\nd\t"} {
		for _, w := range []string{"1 ", "-1\n", "1048576\t", "-1048576\r\n"} {
			full := ahead + strings.Repeat(w, api.MaxWide)
			if _, at, e := Read([]byte(full + "0")); at != 0 || e != api.OK {
				t.Errorf("Read(%s .. 0): %d, %d", short(full), at, e)
			}
			wrong(t, full+"1 0", len(full), api.ErrLong)
			wrong(t, full+"-1", len(full), api.ErrLong)
			wrong(t, full+"1048576 0", len(full), api.ErrLong)
			wrong(t, full+" \n1 x", len(full)+2, api.ErrLong)
			wrong(t, full+"1 d", len(full), api.ErrLong)
			wrong(t, full, len(full), api.ErrText)
			// Named ahead of it.
			wrong(t, full+"x", len(full), api.ErrText)
			wrong(t, full+"d 0", len(full), api.ErrText)
			wrong(t, full+"1048577 0", len(full), api.ErrText)
			wrong(t, full+"-0", len(full), api.ErrText)
		}
	}
}

func TestReadOfTooManySteps(t *testing.T) {
	for _, w := range []string{"0 ", "d -1 0\r\n"} {
		full := strings.Repeat(w, api.MaxSteps)
		if l, at, e := Read([]byte(full)); len(l) != api.MaxSteps || at != 0 || e != api.OK {
			t.Errorf("Read(%s) = %d steps, %d, %d", short(full), len(l), at, e)
		}
		for _, more := range []string{"0", "1 0", "-1048576 2 0", "1", "d", "d 0", "d 1 0", "1 x 0", "d x", "d d", "1 d", "0 0 0"} {
			wrong(t, full+more, len(full), api.ErrLong)
			wrong(t, full+"\n \r"+more+"\n", len(full)+3, api.ErrLong)
		}
		// Named ahead of it.
		for _, more := range []string{"x", "x 0", "dd 0", "-0", "1048577 0", "-9999999999", "+1"} {
			wrong(t, full+more, len(full), api.ErrText)
		}
		// Its first word is wrong ahead of the literal that is one too many in it.
		wrong(t, full+strings.Repeat("1 ", api.MaxWide+1)+"0", len(full), api.ErrLong)
	}
}

func TestReadOfTextsThatEndTooEarly(t *testing.T) {
	for _, end := range []string{"", "\n", "\r\n", " ", "\t", "\r", "\n\n \t\r "} {
		for _, text := range []string{"1", "-1", "1 2", "d", "d 1", "0 1", "1 0 d", "1 0\nd -1048576", "d 0 d", "0\n0\n0\n1\n2\n3"} {
			wrong(t, text+end, len(text+end), api.ErrText)
		}
	}
	full := strings.Repeat("0 ", api.MaxSteps-1)
	wrong(t, full+"d", len(full)+1, api.ErrText)
	wrong(t, full+"1", len(full)+1, api.ErrText)
}

func TestWhatIsWrongFirst(t *testing.T) {
	wrong(t, "1 x 1048577 0", 2, api.ErrText)
	wrong(t, "1 1048577 x 0", 2, api.ErrText)
	wrong(t, "1 0 y d d", 4, api.ErrText)
	wrong(t, "1 d x", 2, api.ErrText)
	wrong(t, "d d x", 2, api.ErrText)
	wide := strings.Repeat("1 ", api.MaxWide)
	wrong(t, "x "+wide+"1 0", 0, api.ErrText)
	wrong(t, wide+"1 x", len(wide), api.ErrLong)
	wrong(t, wide+"0 x "+wide+"1 0", len(wide)+2, api.ErrText)
	many := strings.Repeat("0 ", api.MaxSteps)
	wrong(t, "x "+many+"0", 0, api.ErrText)
	wrong(t, many[:api.MaxSteps]+"x "+many, api.MaxSteps, api.ErrText)
	wrong(t, wide+"1 0 "+many, len(wide), api.ErrLong)
	wrong(t, many+"1 x", len(many), api.ErrLong)
}

// numbers is a function that tells a number below n each time, by a rule that does not repeat soon.
func numbers() func(n int) int {
	seed := uint32(1)
	return func(n int) int {
		seed = seed*1664525 + 1013904223
		return int(seed>>8) % n
	}
}

// someProofs is proofs of many kinds.
func someProofs() [][]api.Step {
	wide := make([]int, api.MaxWide)
	for i := range wide {
		wide[i] = (top - i) * (1 - 2*(i%2))
	}
	all := [][]api.Step{
		nil, proof(add()), proof(del()), proof(add(1, -2), del(1)), proof(add(), del(), add(-3, -3, 3), del()),
		proof(add(top), del(-top, 1)), proof(add(wide...), del(wide...), add(1)),
	}
	next := numbers()
	for vars := 1; vars <= 300; vars++ {
		var l []api.Step
		for range next(20) {
			s := api.Step{Del: next(3) == 0}
			for range next(10) {
				s.Lits = append(s.Lits, (1+next(vars*vars))*(1-2*next(2)))
			}
			l = append(l, s)
		}
		all = append(all, l)
	}
	return all
}

func TestWhatIsPrintedIsRead(t *testing.T) {
	all := append(someProofs(), slices.Repeat(proof(add()), api.MaxSteps), slices.Repeat(proof(del(-9, 8)), api.MaxSteps))
	for _, l := range all {
		b, e := Print(l)
		if e != api.OK {
			t.Fatalf("Print(%s): %d", tell(l), e)
		}
		reads(t, string(b), l)
		again, _, _ := Read(b)
		if !Same(l, again) || !Same(again, l) {
			t.Errorf("not the same: %s; %s", tell(l), tell(again))
		}
		adds, dels := Count(l)
		if adds+dels != len(l) || dels != strings.Count(string(b), "d") {
			t.Errorf("Count(%s) = %d, %d", tell(l), adds, dels)
		}
		if text, _ := Print(again); string(text) != string(b) {
			t.Errorf("printed again: %s; not %s", short(string(text)), short(string(b)))
		}
		for _, between := range []string{" ", "\t", "\r", "\r\n"} {
			other := strings.NewReplacer(" ", between, "\n", " "+between).Replace(string(b))
			reads(t, between+other, l)
		}
	}
}

func TestTextsOneBehindTheOther(t *testing.T) {
	all := someProofs()[:60]
	for _, a := range all {
		for _, b := range all {
			first, _ := Print(a)
			second, _ := Print(b)
			both := slices.Concat(a, b)
			reads(t, string(first)+string(second), both)
			if len(a) == 0 {
				continue
			}
			// Without what parts words at its end, the last word needs it behind.
			bare := strings.TrimSuffix(string(first), "\n")
			reads(t, bare+" "+string(second), both)
		}
	}
	half := strings.Repeat("1 0\n", api.MaxSteps/2)
	reads(t, half+half, slices.Repeat(proof(add(1)), api.MaxSteps))
	wrong(t, half+half+"d 1 0\n", 2*len(half), api.ErrLong)
}

func TestNothingHandedInIsWrittenToOrKept(t *testing.T) {
	text := "1 -2 1 0 d 3\n0 0 2 0"
	want := func() []api.Step { return proof(add(1, -2, 1), del(3), add(), add(2)) }
	b := []byte(text)
	l, _, e := Read(b)
	if e != api.OK || string(b) != text {
		t.Fatalf("%q, %d", b, e)
	}
	again, _, _ := Read(b)
	clear(b)
	if !alike(l, want()) {
		t.Errorf("the text turned: %s", tell(l))
	}
	for i, s := range l {
		// To the end of what it may grow into.
		clear(s.Lits[:cap(s.Lits)])
		if !alike(l[i+1:], want()[i+1:]) {
			t.Errorf("step %d turned others: %s", i, tell(l))
		}
	}
	clear(l[:cap(l)])
	if !alike(again, want()) {
		t.Errorf("one answer turned another: %s", tell(again))
	}
	first, _ := Print(again)
	second, _ := Print(again)
	clear(first[:cap(first)])
	if !alike(again, want()) || string(second) != "1 -2 1 0\nd 3 0\n0\n2 0\n" {
		t.Errorf("Print: %s, %q", tell(again), second)
	}
	Check(again)
	Count(again)
	Same(again, want())
	if !alike(again, want()) {
		t.Errorf("a question turned it: %s", tell(again))
	}
}

// The patterns of words and numbers, apart from Read's way.
var (
	wordPattern   = regexp.MustCompile(`[^ \t\n\r]+`)
	numberPattern = regexp.MustCompile(`^(0|-?[1-9][0-9]{0,9})$`)
)

// readPlainly is Read of a text without too many steps or literals, one promise after the other.
func readPlainly(text string) ([]api.Step, int, api.Errno) {
	var l []api.Step
	ended := true
	for _, x := range wordPattern.FindAllStringIndex(text, -1) {
		word := text[x[0]:x[1]]
		if ended && word == "d" {
			l, ended = append(l, del()), false
			continue
		}
		n, _ := strconv.Atoi(word)
		if !numberPattern.MatchString(word) || n > top || n < -top {
			return nil, x[0], api.ErrText
		}
		if ended {
			l = append(l, add())
		}
		if ended = n == 0; !ended {
			last := len(l) - 1
			l[last].Lits = append(l[last].Lits, n)
		}
	}
	if !ended {
		return nil, len(text), api.ErrText
	}
	return l, 0, api.OK
}

// TestAgainstAPlainReader holds Read against a plain one, at all texts of some pieces.
func TestAgainstAPlainReader(t *testing.T) {
	var seen [api.ErrType + 1]int
	texts := func(pieces []string, most int) {
		all := []string{""}
		for range most + 1 {
			var longer []string
			for _, text := range all {
				l, at, e := Read([]byte(text))
				want, wantAt, wantE := readPlainly(text)
				if !alike(l, want) || at != wantAt || e != wantE {
					t.Fatalf("Read(%q) = %s, %d, %d; not %s, %d, %d", text, tell(l), at, e, tell(want), wantAt, wantE)
				}
				seen[e]++
				for _, p := range pieces {
					longer = append(longer, text+p)
				}
			}
			all = longer
		}
	}
	texts([]string{"0", "1", "-", "d", " "}, 6)
	texts([]string{"0 ", "1\n", "-2\t", "d ", "\r", "d", "0", "x"}, 4)
	texts([]string{" 0 ", " d ", " 1048576 ", " -1048577 ", "1", "\n"}, 5)
	for _, e := range []api.Errno{api.OK, api.ErrText} {
		if seen[e] < 100 {
			t.Errorf("error %d: in %d texts", e, seen[e])
		}
	}
}

func TestNumbersAreLayerThrees(t *testing.T) {
	for _, w := range []string{"0", "1", "-1", "9", "10", "-0", "00", "01", "+1", "-", "1048576", "-1048576", "12345678901", "x", "d1", "1d"} {
		n, ok := dimacs.Number(w)
		_, _, e := Read([]byte("1 " + w + " 0"))
		if ok != (e == api.OK) {
			t.Errorf("%q: %d, %v, but Read tells %d", w, n, ok, e)
		}
	}
}
