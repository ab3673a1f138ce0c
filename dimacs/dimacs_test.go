package dimacs

import (
	"bytes"
	"math"
	"regexp"
	"slices"
	"strconv"
	"strings"
	"testing"

	"fathom/api"
	"fathom/lit"
)

const top = api.MaxVar

// formula is one of so many variables, and these clauses.
func formula(vars int, clauses ...[]int) api.Cnf {
	return api.Cnf{Vars: vars, Clauses: clauses}
}

// reads fails unless a text is read as this formula.
func reads(t *testing.T, text string, want api.Cnf) {
	t.Helper()
	f, at, e := Read([]byte(text))
	if e != api.OK || at != 0 || !lit.Same(f, want) {
		t.Errorf("Read(%s) = %s, %d, %d; not %s", short(text), tell(f), at, e, tell(want))
	}
}

// wrong fails unless a text is wrong there, by that error.
func wrong(t *testing.T, text string, at int, e api.Errno) {
	t.Helper()
	f, gotAt, got := Read([]byte(text))
	if got != e || gotAt != at || f.Vars != 0 || f.Clauses != nil {
		t.Errorf("Read(%s) = %s, %d, %d; not %d, %d", short(text), tell(f), gotAt, got, at, e)
	}
}

// short is a text, or, of a long one, its beginning and its length.
func short(text string) string {
	if len(text) > 200 {
		return strconv.Quote(text[:200]) + " .. of " + strconv.Itoa(len(text)) + " bytes"
	}
	return strconv.Quote(text)
}

// tell is a formula for people's eyes, and of a great one only how great it is.
func tell(f api.Cnf) string {
	s := strconv.Itoa(f.Vars) + " variables, " + strconv.Itoa(len(f.Clauses)) + " clauses"
	for _, c := range f.Clauses[:min(len(f.Clauses), 5)] {
		s += ", " + strconv.Itoa(len(c)) + " literals:"
		for _, l := range c[:min(len(c), 5)] {
			s += " " + strconv.Itoa(l)
		}
	}
	return s
}

// padded is a text of size bytes: what stands ahead, a byte again and again, and what stands behind.
func padded(ahead, with, behind string, size int) string {
	return ahead + strings.Repeat(with, size-len(ahead)-len(behind)) + behind
}

func TestNumber(t *testing.T) {
	good := map[string]int{
		"0": 0, "1": 1, "9": 9, "-1": -1, "-9": -9, "10": 10, "-10": -10, "100": 100, "12345": 12345, "1048576": top, "-1048576": -top,
		"1000000000": 1000000000, "9999999999": 9999999999, "-9999999999": -9999999999, "1234567890": 1234567890, "-1234567890": -1234567890,
	}
	for s, want := range good {
		if n, ok := Number(s); !ok || n != want {
			t.Errorf("Number(%q) = %d, %v", s, n, ok)
		}
	}
	bad := []string{
		"", "-", "+", "--", "+1", "--1", "-+1", "1-", "1-2", "-1-", "- 1",
		"-0", "00", "01", "-00", "-01", "0000000000", "0000000001", "-0000000001",
		"10000000000", "-10000000000", "12345678901", "00000000000", "9223372036854775807", "18446744073709551617", strings.Repeat("1", 1000),
		"a", "c", "p", "1a", "a1", "0x1", "1_0", "1.0", "1e3", "1,", "/", ":", "1/", "1:",
		" ", " 1", "1 ", "\t1", "1\t", "1\n", "\n", "1\r", "\r", "\x00", "1\x00", "\x001", "\xff", "1\xff", "\u0661", "\u22121", "\uff11",
	}
	for _, s := range bad {
		if n, ok := Number(s); ok || n != 0 {
			t.Errorf("Number(%q) = %d, %v", s, n, ok)
		}
	}
	for n := -1200; n <= 1200; n++ {
		if got, ok := Number(strconv.Itoa(n)); !ok || got != n {
			t.Errorf("Number of %d: %d, %v", n, got, ok)
		}
	}
}

func TestNumberOfEachByte(t *testing.T) {
	for c := range 256 {
		one, two := string([]byte{byte(c)}), string([]byte{'1', byte(c)})
		digit := '0' <= c && c <= '9'
		if n, ok := Number(one); ok != digit || ok && n != c-'0' || !ok && n != 0 {
			t.Errorf("Number(%q) = %d, %v", one, n, ok)
		}
		if n, ok := Number(two); ok != digit || ok && n != 10+c-'0' || !ok && n != 0 {
			t.Errorf("Number(%q) = %d, %v", two, n, ok)
		}
	}
}

func TestPrint(t *testing.T) {
	tests := []struct {
		f    api.Cnf
		want string
	}{
		{api.Cnf{}, "p cnf 0 0\n"},
		{formula(7), "p cnf 7 0\n"},
		{api.Cnf{Vars: 7, Clauses: [][]int{}}, "p cnf 7 0\n"},
		{formula(2, []int{1, -2}), "p cnf 2 1\n1 -2 0\n"},
		{formula(0, nil, []int{}), "p cnf 0 2\n0\n0\n"},
		{formula(3, []int{3, -1, 3}, nil, []int{-2}), "p cnf 3 3\n3 -1 3 0\n0\n-2 0\n"},
		{formula(top, []int{top, -top}, []int{10, -100}), "p cnf 1048576 2\n1048576 -1048576 0\n10 -100 0\n"},
	}
	for _, x := range tests {
		if b, e := Print(x.f); e != api.OK || string(b) != x.want {
			t.Errorf("Print(%s) = %q, %d", tell(x.f), b, e)
		}
	}
}

func TestPrintOfNoFormula(t *testing.T) {
	long := slices.Repeat([][]int{slices.Repeat([]int{1}, 16)}, api.MaxClauses-1)
	bad := []api.Cnf{
		{Vars: -1}, {Vars: top + 1}, {Vars: math.MinInt}, {Vars: math.MaxInt},
		formula(2, []int{1, 0}), formula(2, []int{1}, []int{3}), formula(2, []int{1}, []int{2, -3}), formula(0, []int{1}),
		formula(top, []int{top + 1}), formula(top, []int{math.MinInt}), formula(top, []int{math.MaxInt}),
		formula(1, slices.Repeat([]int{1}, api.MaxWide+1)),
		formula(1, slices.Repeat([][]int{nil}, api.MaxClauses+1)...),
		// Too long, too: what is named first is told.
		formula(1, append(long, []int{0})...),
	}
	for i, f := range bad {
		if b, e := Print(f); e != api.ErrArg || b != nil {
			t.Errorf("no formula %d: %d bytes, %d", i, len(b), e)
		}
	}
}

// longest is a formula whose text has just MaxText bytes; its literals are 1.
func longest() api.Cnf {
	const clauses = 512
	// Two bytes for each literal, and for the 0.
	rest := api.MaxText - len("p cnf 1 512\n") - (clauses-1)*2*(api.MaxWide+1)
	f := api.Cnf{Vars: 1}
	for range clauses - 1 {
		f.Clauses = append(f.Clauses, slices.Repeat([]int{1}, api.MaxWide))
	}
	f.Clauses = append(f.Clauses, slices.Repeat([]int{1}, rest/2-1))
	return f
}

func TestPrintOfLongTexts(t *testing.T) {
	f := longest()
	b, e := Print(f)
	if e != api.OK || len(b) != api.MaxText {
		t.Fatalf("%d bytes, %d", len(b), e)
	}
	reads(t, string(b), f)
	tooLong := func(f api.Cnf) {
		t.Helper()
		if b, e := Print(f); e != api.ErrLong || b != nil {
			t.Errorf("%s: %d bytes, %d", tell(f), len(b), e)
		}
	}
	last := f.Clauses[len(f.Clauses)-1]
	last[0] = -1
	tooLong(f)
	last[0] = 1
	f.Clauses[0][7] = -1
	tooLong(f)
	tooLong(formula(1, slices.Repeat([][]int{slices.Repeat([]int{1}, 16)}, api.MaxClauses)...))
	tooLong(formula(top, slices.Repeat([][]int{slices.Repeat([]int{-top}, api.MaxWide)}, 4096)...))
}

func TestRead(t *testing.T) {
	one := formula(2, []int{1, -2})
	for _, text := range []string{
		"p cnf 2 1\n1 -2 0\n",
		"p cnf 2 1\n1 -2 0",
		"c x\np cnf 2 1\n1 -2 0\n",
		// Lines' ends.
		"p cnf 2 1\r\n1 -2 0\r\n", "p cnf 2 1\r\n1 -2 0", "p cnf 2 1\n1\r\n-2\n0\r\n", "p cnf 2 1 \r\n 1 -2 0 \r\n",
		// Blanks and tabs.
		"  p cnf 2 1\n1 -2 0\n", "\tp\tcnf\t2\t1\t\n\t1\t-2\t0\t\n", " \t p \t cnf  2\t\t1 \t \n  1 \t-2\t 0  ", "p cnf 2 1\n1 -2 0 ", "p cnf 2 1\n1 -2 0\t",
		// Lines that say nothing.
		"\n\n \n\t\n \t \np cnf 2 1\n\n \n1\n\n\t\n-2\n\n0\n\n \n", "\r\n \r\np cnf 2 1\r\n\r\n1\r\n\t\r\n-2 0\r\n\r\n",
		"c\nc \n c\n\tc\tx\nc p cnf 9 9\nc c c\np cnf 2 1\n1 -2 0", "c\r\n c x\r\np cnf 2 1\n1 -2 0",
		"p cnf 2 1\nc\n1 -2 0", "p cnf 2 1\nc 5 6 x 0\n1\nc\nc 0\n c\t0 \n\tc x\r\n-2\nc \xff\x00\n0\nc", "p cnf 2 1\n1 -2 0\nc", "p cnf 2 1\n1 -2 0\nc 1 0\n", "p cnf 2 1\n1 -2 0\n  c p cnf 1 1",
		"c a\rb\np cnf 2 1\nc\t\r \n1 -2 0",
		// A clause over several lines.
		"p cnf 2 1\n1\n-2\n0\n", "p cnf 2 1\n1 -2\n0", "p cnf 2 1\n1\n-2 0",
	} {
		reads(t, text, one)
	}
	tests := []struct {
		text string
		want api.Cnf
	}{
		{"p cnf 0 0", formula(0)},
		{"p cnf 0 0\n", formula(0)},
		{"p cnf 5 0\n\nc\n", formula(5)},
		{"p cnf 0 1\n0", formula(0, nil)},
		{"p cnf 3 3\n0 0\n0", formula(3, nil, nil, nil)},
		{"p cnf 3 3\n0 1 0 0", formula(3, nil, []int{1}, nil)},
		{"p cnf 3 4\n1 2 0 -3 0 3 3\n-3 0 2\n0", formula(3, []int{1, 2}, []int{-3}, []int{3, 3, -3}, []int{2})},
		{"p cnf 12 2\n12 -11 0\n-10 10 0\n", formula(12, []int{12, -11}, []int{-10, 10})},
		{"p cnf 1048576 1\n1048576 -1048576 1048575 0\n", formula(top, []int{top, -top, top - 1})},
	}
	for _, x := range tests {
		reads(t, x.text, x.want)
	}
}

func TestReadOfMany(t *testing.T) {
	reads(t, "p cnf 0 262144\n"+strings.Repeat("0\n", api.MaxClauses), formula(0, slices.Repeat([][]int{nil}, api.MaxClauses)...))
	reads(t, "p cnf 1 262144\n"+strings.Repeat("-1 0 ", api.MaxClauses), formula(1, slices.Repeat([][]int{{-1}}, api.MaxClauses)...))
	reads(t, "p cnf 1 2\n"+strings.Repeat("1 ", api.MaxWide)+"0\n"+strings.Repeat("-1\n", api.MaxWide)+"0",
		formula(1, slices.Repeat([]int{1}, api.MaxWide), slices.Repeat([]int{-1}, api.MaxWide)))
}

func TestReadOfLongTexts(t *testing.T) {
	one := formula(1, []int{1})
	text := "\np cnf 1 1\n1 0\n"
	for _, with := range []string{" ", "\t", "\n"} {
		reads(t, padded(text, with, "", api.MaxText), one)
		reads(t, padded("", with, text, api.MaxText), one)
		reads(t, padded(text[:12], with, text[12:], api.MaxText), one)
		wrong(t, padded(text[:12], with, "", api.MaxText), api.MaxText, api.ErrText)
		wrong(t, padded(text[:10], with, "", api.MaxText), api.MaxText, api.ErrNone)
		wrong(t, padded("c", with, "", api.MaxText), api.MaxText, api.ErrText)
	}
	reads(t, padded("c ", "x", text, api.MaxText), one)
	reads(t, padded(text+"c ", "x", "", api.MaxText), one)
	wrong(t, padded("", "x", text, api.MaxText), 0, api.ErrText)
	wrong(t, padded(text, "1", "", api.MaxText), len(text), api.ErrText)
	for _, more := range []int{1, 2, 1000} {
		wrong(t, padded("c ", "x", text, api.MaxText+more), 0, api.ErrLong)
		wrong(t, padded(text, "\n", "", api.MaxText+more), 0, api.ErrLong)
		wrong(t, padded("\n x", "x", "", api.MaxText+more), 0, api.ErrLong)
	}
}

func TestReadOfNoHead(t *testing.T) {
	tests := []struct {
		text string
		at   int
		e    api.Errno
	}{
		// None at all: at the text's end.
		{"", 0, api.ErrText}, {"\n", 1, api.ErrText}, {"\r\n", 2, api.ErrText}, {"  \t", 3, api.ErrText}, {"c", 1, api.ErrText}, {"c\n", 2, api.ErrText},
		{"c p cnf 1 1\n\n c x\n", 18, api.ErrText}, {"c x\r\n\r\n", 7, api.ErrText},
		// A word that is another one than it must be.
		{"x", 0, api.ErrText}, {"1 0\n", 0, api.ErrText}, {"0", 0, api.ErrText}, {"cnf 1 1\n", 0, api.ErrText}, {"cx\np cnf 0 0\n", 0, api.ErrText}, {"C\np cnf 0 0", 0, api.ErrText},
		{"P cnf 0 0", 0, api.ErrText}, {"pcnf 0 0", 0, api.ErrText}, {"pp cnf 0 0", 0, api.ErrText}, {" \tx cnf 0 0", 2, api.ErrText}, {"\n c\n x\n", 5, api.ErrText},
		{"p", 0, api.ErrText}, {"p c 0 0", 2, api.ErrText}, {"p CNF 0 0", 2, api.ErrText}, {"p cn 0 0", 2, api.ErrText}, {"p cnff 0 0", 2, api.ErrText}, {"p  dnf 0 0", 3, api.ErrText},
		{"p 0 0", 2, api.ErrText}, {"p p cnf 0 0", 2, api.ErrText}, {"p dnf", 2, api.ErrText}, {"p dnf x x x", 2, api.ErrText}, {"x dnf x x x", 0, api.ErrText},
		{"p cnf x 0", 6, api.ErrText}, {"p cnf 00 0", 6, api.ErrText}, {"p cnf 01 0", 6, api.ErrText}, {"p cnf -0 0", 6, api.ErrText}, {"p cnf +1 0", 6, api.ErrText}, {"p cnf - 0", 6, api.ErrText},
		{"p cnf 10000000000 0", 6, api.ErrText}, {"p cnf x", 6, api.ErrText}, {"p cnf x x x", 6, api.ErrText}, {"p cnf\t\t c 0", 8, api.ErrText},
		{"p cnf 0 x", 8, api.ErrText}, {"p cnf 0 00", 8, api.ErrText}, {"p cnf 0 -0", 8, api.ErrText}, {"p cnf 0 +1", 8, api.ErrText}, {"p cnf 0 - 0", 8, api.ErrText}, {"p cnf 10 12345678901", 9, api.ErrText},
		{"p cnf 0 0\r", 8, api.ErrText}, {"p cnf 0 0\r\r\n", 8, api.ErrText}, {"p cnf 0\r 0\n", 6, api.ErrText}, {"p\rcnf 0 0\n", 0, api.ErrText}, {"\rp cnf 0 0\n", 0, api.ErrText}, {"\r", 0, api.ErrText}, {"c\r", 0, api.ErrText}, {"\r\r\n", 0, api.ErrText}, {" \r \n", 1, api.ErrText},
		{"p cnf 0\v0", 6, api.ErrText}, {"p\x00", 0, api.ErrText}, {"p cnf 0\u00a00", 6, api.ErrText}, {"\ufeffp cnf 0 0", 0, api.ErrText}, {"\fp cnf 0 0", 0, api.ErrText},
		// How many can't be below 0.
		{"p cnf -1 0", 6, api.ErrText}, {"p cnf 1 -1", 8, api.ErrText}, {"p cnf -1048577 0", 6, api.ErrText}, {"p cnf 1 -9999999999", 8, api.ErrText},
		// A word too few: at the line.
		{"p\n", 0, api.ErrText}, {"p cnf\n", 0, api.ErrText}, {"p cnf 1\n", 0, api.ErrText}, {"p cnf 1", 0, api.ErrText}, {"p cnf 1 \t\r\n1 0\n", 0, api.ErrText}, {"c\n\np cnf 1\n1\n", 3, api.ErrText}, {"c x\r\n  p cnf\n", 5, api.ErrText}, {"p\ncnf\n0\n0\n", 0, api.ErrText},
		// A word too many: at it.
		{"p cnf 0 0 0", 10, api.ErrText}, {"p cnf 0 0 x y", 10, api.ErrText}, {"p cnf 1 1 1 0\n", 10, api.ErrText}, {"\np cnf 1 1  c\n1 0\n", 12, api.ErrText}, {"p cnf 0 0 \r \n", 10, api.ErrText},
		// Too many variables or clauses.
		{"p cnf 1048577 0", 6, api.ErrArg}, {"p cnf 9999999999 0\n", 6, api.ErrArg}, {"c\n  p  cnf 1048577 1\n1 0\n", 11, api.ErrArg},
		{"p cnf 0 262145", 8, api.ErrArg}, {"p cnf 1048576 9999999999", 14, api.ErrArg}, {"p cnf 1048577 262145\nx", 6, api.ErrArg},
		// What is no head has neither.
		{"p cnf 1048577 x", 14, api.ErrText}, {"p cnf 1048577", 0, api.ErrText}, {"p cnf 1048577 262145 1", 21, api.ErrText}, {"p cnf 1 262145 x", 15, api.ErrText},
	}
	for _, x := range tests {
		wrong(t, x.text, x.at, x.e)
	}
}

func TestReadOfWrongWords(t *testing.T) {
	words := []string{
		"x", "c", "p", "-", "+", "+1", "-0", "00", "01", "-01", "--1", "10000000000", "-10000000000", "1x", "x1", "1.", "%", "\x00", "\xff", "\u0661", "\v", "\f", "\u00a0", "1\v0", "1\r0", "\r", "1\r", "0\r", "d",
	}
	for _, w := range words {
		wrong(t, "p cnf 1 2\n1 "+w+" 0\n1 0\n", 12, api.ErrText)
		wrong(t, "p cnf 1 2\n1 0\n1\n \t1\t"+w+"\t", 20, api.ErrText)
		wrong(t, "p cnf 1 0\n0 "+w, 10, api.ErrNone)
		wrong(t, "p cnf 1 1\n0\n\n0 "+w, 13, api.ErrNone)
		if w != "c" {
			wrong(t, "p cnf 1 1\n"+w+" 1 0", 10, api.ErrText)
			// A clause too many is named behind a word that is no number.
			wrong(t, "p cnf 1 0\n"+w+" 1 0", 10, api.ErrText)
		}
	}
	wrong(t, "p cnf 1 1\n1 0\n\r", 14, api.ErrText)
	wrong(t, "p cnf 1 1\n1 0\r", 12, api.ErrText)
	wrong(t, "p cnf 1 1\n1 0\r\r\n", 12, api.ErrText)
	wrong(t, "p cnf 1 1\n1 0\nc\r", 14, api.ErrText)
	wrong(t, "p cnf 1 1\n1 0\np cnf 1 1\n", 14, api.ErrText)
	wrong(t, "p cnf 1 1\n1 0 c x\n", 14, api.ErrText)
	wrong(t, "p cnf 1 1\n1 0\ncx\n", 14, api.ErrText)
}

func TestReadOfGreaterVariables(t *testing.T) {
	for _, w := range []string{"3", "-3", "10", "1048576", "1048577", "-1048577", "9999999999", "-9999999999"} {
		wrong(t, "p cnf 2 1\n"+w+" 0\n", 10, api.ErrArg)
		wrong(t, "p cnf 2 1\n1 -2 "+w+" 0\n", 15, api.ErrArg)
		wrong(t, "p cnf 2 1\n1\nc\n "+w, 15, api.ErrArg)
		wrong(t, "p cnf 2 0\n"+w+" 0\n", 10, api.ErrArg)
		wrong(t, "p cnf 2 1\n1 0 "+w+" x\n", 14, api.ErrArg)
	}
	wrong(t, "p cnf 0 1\n1 0\n", 10, api.ErrArg)
	wrong(t, "p cnf 0 1\n-1 0\n", 10, api.ErrArg)
	wrong(t, "p cnf 1048576 1\n1048577 0\n", 16, api.ErrArg)
	wrong(t, "p cnf 1048576 1\n-1048577 0\n", 16, api.ErrArg)
}

func TestReadOfWideClauses(t *testing.T) {
	for _, l := range []int{1, -1} {
		full := "p cnf 1 2\n1 0\n" + strings.Repeat(strconv.Itoa(l)+"\n", api.MaxWide)
		reads(t, full+"0", formula(1, []int{1}, slices.Repeat([]int{l}, api.MaxWide)))
		wrong(t, full+"1 0", len(full), api.ErrLong)
		wrong(t, full+"-1", len(full), api.ErrLong)
		wrong(t, full+" 1 x", len(full)+1, api.ErrLong)
		wrong(t, full, len(full), api.ErrText)
		// Named ahead of it.
		wrong(t, full+"x", len(full), api.ErrText)
		wrong(t, full+"2 0", len(full), api.ErrArg)
	}
}

func TestReadOfTooManyClauses(t *testing.T) {
	wrong(t, "p cnf 1 0\n1 0\n", 10, api.ErrNone)
	wrong(t, "p cnf 1 0\n1", 10, api.ErrNone)
	wrong(t, "p cnf 1 0\n0\n", 10, api.ErrNone)
	wrong(t, "p cnf 1 1\n1 0\n1 0\n", 14, api.ErrNone)
	wrong(t, "p cnf 1 1\n1 0 1 0\n", 14, api.ErrNone)
	wrong(t, "p cnf 1 1\n1 0\nc\n\n\t0\n", 18, api.ErrNone)
	wrong(t, "p cnf 1 1\n1 0 -1 2 x", 14, api.ErrNone)
	many := "p cnf 0 262144\n" + strings.Repeat("0 ", api.MaxClauses)
	wrong(t, many+"0", len(many), api.ErrNone)
}

func TestReadOfTextsThatEndTooEarly(t *testing.T) {
	for _, end := range []string{"", "\n", "\r\n", " ", "\n\nc 0\n", "\nc", "\n \t"} {
		for _, text := range []string{"p cnf 1 1\n1", "p cnf 1 1\n1 1\n-1", "p cnf 1 2\n1 0 1", "p cnf 1 2\n1", "p cnf 1 3\n0\n0\n1"} {
			wrong(t, text+end, len(text+end), api.ErrText)
		}
		for _, text := range []string{"p cnf 1 1", "p cnf 1 2\n1 0", "p cnf 1 3\n0\n0", "p cnf 0 262144"} {
			wrong(t, text+end, len(text+end), api.ErrNone)
		}
	}
}

func TestWhatIsWrongFirst(t *testing.T) {
	wrong(t, "p cnf 1 1\n2 x 0", 10, api.ErrArg)
	wrong(t, "p cnf 1 1\nx 2 0", 10, api.ErrText)
	wrong(t, "p cnf 1 2\n1 0 2 x", 14, api.ErrArg)
	wrong(t, "p cnf 1 1\n1 0 1 x 2", 14, api.ErrNone)
	wrong(t, "p cnf 1 3\n1 0 1 x 2", 16, api.ErrText)
	wrong(t, "p cnf 1 3\n1 0\n2", 14, api.ErrArg)
	wrong(t, "p dnf 1048577 1\nx", 2, api.ErrText)
	wrong(t, "p cnf 1048577 1\nx", 6, api.ErrArg)
}

func TestWhatIsPrintedIsRead(t *testing.T) {
	all := []api.Cnf{
		{}, formula(top), formula(3, nil), formula(3, []int{1, -2, 3}, nil, []int{-3, -3}, []int{1, -1}),
		formula(top, []int{top}, []int{-top, 1}),
		formula(0, slices.Repeat([][]int{nil}, api.MaxClauses)...),
		formula(9, slices.Repeat([][]int{{-9, 8}}, api.MaxClauses)...),
	}
	wide := make([]int, api.MaxWide)
	for i := range wide {
		wide[i] = (top - i) * (1 - 2*(i%2))
	}
	all = append(all, formula(top, wide, []int{1}, wide))
	// Formulas by a rule that does not repeat soon.
	seed := uint32(1)
	next := func(n int) int {
		seed = seed*1664525 + 1013904223
		return int(seed>>8) % n
	}
	for vars := range 300 {
		f := api.Cnf{Vars: vars * vars}
		for range next(20) {
			var c []int
			for range next(10) * min(vars, 1) {
				c = append(c, (1+next(vars*vars))*(1-2*next(2)))
			}
			f.Clauses = append(f.Clauses, c)
		}
		all = append(all, f)
	}
	for _, f := range all {
		b, e := Print(f)
		if e != api.OK {
			t.Fatalf("Print(%s): %d", tell(f), e)
		}
		reads(t, string(b), f)
		reads(t, strings.ReplaceAll(string(b), "\n", " \r\n\tc x\n"), f)
	}
}

func TestNothingHandedInIsWrittenToOrKept(t *testing.T) {
	text := "p cnf 3 4\n1 -2 1 0 3\n0 0 2 0"
	want := func() api.Cnf { return formula(3, []int{1, -2, 1}, []int{3}, nil, []int{2}) }
	b := []byte(text)
	f, _, e := Read(b)
	if e != api.OK || string(b) != text {
		t.Fatalf("%q, %d", b, e)
	}
	again, _, _ := Read(b)
	clear(b)
	if !lit.Same(f, want()) {
		t.Errorf("the text turned: %s", tell(f))
	}
	for i, c := range f.Clauses {
		// To the end of what it may grow into.
		clear(c[:cap(c)])
		if !lit.Same(formula(3, f.Clauses[i+1:]...), formula(3, want().Clauses[i+1:]...)) {
			t.Errorf("clause %d turned others: %s", i, tell(f))
		}
	}
	if !lit.Same(again, want()) {
		t.Errorf("one answer turned another: %s", tell(again))
	}
	first, _ := Print(again)
	second, _ := Print(again)
	clear(first[:cap(first)])
	if !lit.Same(again, want()) || string(second) != "p cnf 3 4\n1 -2 1 0\n3 0\n0\n2 0\n" {
		t.Errorf("Print: %s, %q", tell(again), second)
	}
}

// token is a word of a text, and where it begins.
type token struct {
	word string
	at   int
}

// said is the lines of a text that say something, as words, and where they begin: by the words' pattern, apart from Read's way.
func said(text string) (lines [][]token, begins []int) {
	word := regexp.MustCompile(`[^ \t]+`)
	begin := 0
	for _, part := range strings.SplitAfter(text, "\n") {
		line := part
		if bare, ended := strings.CutSuffix(part, "\n"); ended {
			line = strings.TrimSuffix(bare, "\r")
		}
		var tokens []token
		for _, x := range word.FindAllStringIndex(line, -1) {
			tokens = append(tokens, token{line[x[0]:x[1]], begin + x[0]})
		}
		if len(tokens) > 0 && tokens[0].word != "c" {
			lines, begins = append(lines, tokens), append(begins, begin)
		}
		begin += len(part)
	}
	return lines, begins
}

// readPlainly is Read of a text with at most nine variables and clauses, one promise after the other.
func readPlainly(text string) (api.Cnf, int, api.Errno) {
	lines, begins := said(text)
	if len(lines) == 0 {
		return api.Cnf{}, len(text), api.ErrText
	}
	for i, w := range lines[0] {
		patterns := []string{`^p$`, `^cnf$`, `^[0-9]$`, `^[0-9]$`}
		if i >= len(patterns) || !regexp.MustCompile(patterns[i]).MatchString(w.word) {
			return api.Cnf{}, w.at, api.ErrText
		}
	}
	if len(lines[0]) < 4 {
		return api.Cnf{}, begins[0], api.ErrText
	}
	f := api.Cnf{Vars: int(lines[0][2].word[0] - '0')}
	clauses := int(lines[0][3].word[0] - '0')
	number := regexp.MustCompile(`^(0|-?[1-9][0-9]{0,9})$`)
	open := false
	for _, w := range slices.Concat(lines[1:]...) {
		n, _ := strconv.Atoi(w.word)
		switch {
		case !number.MatchString(w.word):
			return api.Cnf{}, w.at, api.ErrText
		case n > f.Vars || n < -f.Vars:
			return api.Cnf{}, w.at, api.ErrArg
		case !open && len(f.Clauses) == clauses:
			return api.Cnf{}, w.at, api.ErrNone
		}
		if !open {
			f.Clauses = append(f.Clauses, nil)
		}
		if open = n != 0; open {
			last := len(f.Clauses) - 1
			f.Clauses[last] = append(f.Clauses[last], n)
		}
	}
	if open {
		return api.Cnf{}, len(text), api.ErrText
	}
	if len(f.Clauses) < clauses {
		return api.Cnf{}, len(text), api.ErrNone
	}
	return f, 0, api.OK
}

// TestAgainstAPlainReader holds Read against a plain one, at all texts of some pieces.
func TestAgainstAPlainReader(t *testing.T) {
	compare := func(text string) api.Errno {
		b := []byte(text)
		f, at, e := Read(b)
		want, wantAt, wantE := readPlainly(text)
		if !lit.Same(f, want) || at != wantAt || e != wantE || !bytes.Equal(b, []byte(text)) {
			t.Fatalf("Read(%q) = %s, %d, %d; not %s, %d, %d", text, tell(f), at, e, tell(want), wantAt, wantE)
		}
		return e
	}
	var seen [api.ErrType + 1]int
	texts := func(ahead string, pieces []string, most int) {
		all := []string{ahead}
		for range most + 1 {
			var longer []string
			for _, text := range all {
				seen[compare(text)]++
				for _, p := range pieces {
					longer = append(longer, text+p)
				}
			}
			all = longer
		}
	}
	texts("", []string{"p", "cnf", "1", " ", "\n", "c", "\r"}, 5)
	texts("", []string{"p ", "cnf ", "\tcnf", "1 ", "0", " ", "\n", "c ", "x"}, 4)
	texts("p cnf 1 2\n", []string{"1 ", "-1\t", "0 ", "0", "2 ", "x", "c", "\n", "\r"}, 4)
	texts("c\r\n p cnf 2 1 \r\n", []string{"1", "-", "0", " ", "\n", "\r\n", "c 0"}, 5)
	for _, e := range []api.Errno{api.OK, api.ErrText, api.ErrArg, api.ErrNone} {
		if seen[e] < 10 {
			t.Errorf("error %d: in %d texts", e, seen[e])
		}
	}
}
