package bintrace

import (
	"encoding/binary"
	"math"
	"slices"
	"strconv"
	"strings"
	"testing"

	"fathom/api"
	"fathom/trace"
)

const top = api.MaxVar

// add is a step whose clause follows.
func add(c ...int) api.Step {
	return api.Step{Lits: c}
}

// del is a step whose clause goes.
func del(c ...int) api.Step {
	return api.Step{Del: true, Lits: c}
}

// proof is these steps.
func proof(steps ...api.Step) []api.Step {
	return steps
}

// alike tells whether steps are alike, one by one, apart from layer 4.
func alike(a, b []api.Step) bool {
	if len(a) != len(b) {
		return false
	}
	for i := range a {
		if a[i].Del != b[i].Del || !slices.Equal(a[i].Lits, b[i].Lits) {
			return false
		}
	}
	return true
}

// call is Decode, Load or layer 4's Read.
type call func([]byte) ([]api.Step, int, api.Errno)

// tells fails unless a call answers this proof.
func tells(t *testing.T, f call, b string, want []api.Step) {
	t.Helper()
	l, at, e := f([]byte(b))
	if e != api.OK || at != 0 || !alike(l, want) {
		t.Errorf("%s: %s, %d, %d; not %s", short(b), tell(l), at, e, tell(want))
	}
}

// refuses fails unless bytes are wrong there, by that error.
func refuses(t *testing.T, f call, b string, at int, e api.Errno) {
	t.Helper()
	l, gotAt, got := f([]byte(b))
	if got != e || gotAt != at || l != nil {
		t.Errorf("%s: %s, %d, %d; not %d, %d", short(b), tell(l), gotAt, got, at, e)
	}
}

// decodes fails unless bytes are decoded as this proof.
func decodes(t *testing.T, b string, want []api.Step) {
	t.Helper()
	tells(t, Decode, b, want)
}

// wrong fails unless Decode tells that bytes are wrong there, by that error.
func wrong(t *testing.T, b string, at int, e api.Errno) {
	t.Helper()
	refuses(t, Decode, b, at, e)
}

// agree fails unless two calls answer the same of these bytes.
func agree(t *testing.T, f, g call, b string) {
	t.Helper()
	l, at, e := f([]byte(b))
	want, wantAt, wantE := g([]byte(b))
	if e != wantE || at != wantAt || !alike(l, want) {
		t.Errorf("%s: %s, %d, %d; not %s, %d, %d", short(b), tell(l), at, e, tell(want), wantAt, wantE)
	}
}

// short is bytes, or, of many, their beginning and how many they are.
func short(b string) string {
	if len(b) > 100 {
		return strconv.Quote(b[:100]) + " .. of " + strconv.Itoa(len(b)) + " bytes"
	}
	return strconv.Quote(b)
}

// tell is a proof for people's eyes, and of a great one only its beginning.
func tell(l []api.Step) string {
	s := strconv.Itoa(len(l)) + " steps"
	for _, x := range l[:min(len(l), 5)] {
		s += ", " + map[bool]string{false: "follows", true: "goes"}[x.Del] + ", " + strconv.Itoa(len(x.Lits)) + " literals:"
		for _, n := range x.Lits[:min(len(x.Lits), 5)] {
			s += " " + strconv.Itoa(n)
		}
	}
	return s
}

// plainNumber is a number's bytes, by the library.
func plainNumber(n int) string {
	return string(binary.AppendUvarint(nil, uint64(n)))
}

// plainLiteral is a literal's number's bytes, by the library.
func plainLiteral(l int) string {
	if l < 0 {
		return plainNumber(2*-l + 1)
	}
	return plainNumber(2 * l)
}

// plainBytes is a proof's bytes, by the library.
func plainBytes(l []api.Step) string {
	var b strings.Builder
	for _, s := range l {
		b.WriteString(map[bool]string{false: "a", true: "d"}[s.Del])
		for _, l := range s.Lits {
			b.WriteString(plainLiteral(l))
		}
		b.WriteByte(0)
	}
	return b.String()
}

// edgeLiterals is a literal of each edge with its number's bytes.
func edgeLiterals() []struct {
	l int
	b string
} {
	return []struct {
		l int
		b string
	}{
		{1, "\x02"}, {-1, "\x03"}, {2, "\x04"}, {-2, "\x05"}, {62, "\x7c"}, {-62, "\x7d"},
		{63, "\x7e"}, {-63, "\x7f"},
		{64, "\x80\x01"}, {-64, "\x81\x01"},
		{65, "\x82\x01"}, {127, "\xfe\x01"}, {-127, "\xff\x01"}, {128, "\x80\x02"}, {-128, "\x81\x02"},
		{8191, "\xfe\x7f"}, {-8191, "\xff\x7f"},
		{8192, "\x80\x80\x01"}, {-8192, "\x81\x80\x01"},
		{8193, "\x82\x80\x01"}, {16384, "\x80\x80\x02"},
		{top - 1, "\xfe\xff\x7f"}, {1 - top, "\xff\xff\x7f"},
		{top, "\x80\x80\x80\x01"}, {-top, "\x81\x80\x80\x01"},
	}
}

// noLiterals is numbers that are no literals.
func noLiterals() []int {
	return []int{0, top + 1, -top - 1, 2 * top, -2 * top, 1 << 27, 1 << 28, 1<<31 - 1, -1 << 31, math.MaxInt, math.MinInt, math.MinInt + 1, math.MaxInt / 2, math.MinInt / 2, 1 << 40, -1 << 40}
}

// noProofs is lists that are no proofs.
func noProofs() [][]api.Step {
	bad := [][]api.Step{
		slices.Repeat(proof(add()), api.MaxSteps+1),
		slices.Repeat(proof(del(1)), api.MaxSteps+1),
		slices.Repeat(proof(add(1)), 2*api.MaxSteps),
		append(slices.Repeat(proof(add()), api.MaxSteps-1), del(0)),
	}
	noClauses := [][]int{slices.Repeat([]int{1}, api.MaxWide+1), slices.Repeat([]int{-top}, 2*api.MaxWide), {1, 0}, {0, 1}, {1, 2, 0, 3}}
	for _, l := range noLiterals() {
		noClauses = append(noClauses, []int{l}, []int{1, l})
	}
	for _, c := range noClauses {
		bad = append(bad, proof(add(c...)), proof(del(c...)), proof(add(1), add(c...)), proof(del(c...), add(1)), proof(add(), del(c...), add()))
	}
	return bad
}

// badNumbers is bytes that begin like a number, and are no literal's number as it is written.
func badNumbers() []string {
	return []string{
		// 0 and 1, in one byte or more (the 0 in one byte ends a step).
		"\x01", "\x80\x00", "\x81\x00", "\x80\x80\x00", "\x81\x80\x00", "\x80\x80\x80\x00", "\x81\x80\x80\x00", "\x80\x80\x80\x80\x00", "\x81\x80\x80\x80\x00",
		// Literals, with a last byte that is not needed.
		"\x82\x00", "\x83\x00", "\xff\x00", "\x82\x80\x00", "\xff\xff\x00", "\x80\x81\x00", "\x82\x80\x80\x00", "\xff\xff\xff\x00", "\x80\x80\x80\x81\x00", "\x82\x80\x80\x80\x00",
		"\x82" + strings.Repeat("\x80", 7) + "\x00", "\x82" + strings.Repeat("\x80", 8) + "\x00", "\x82" + strings.Repeat("\x80", 100) + "\x00",
		// Of variables above MaxVar.
		"\x82\x80\x80\x01", "\x83\x80\x80\x01", "\x80\x81\x80\x01", "\x80\x80\x81\x01", "\x80\x80\x80\x02", "\xff\xff\xff\x01", "\xff\xff\xff\x7f",
		"\x80\x80\x80\x80\x01", "\x82\x80\x80\x80\x01", "\xff\xff\xff\xff\x0f", "\x80\x80\x80\x80\x10", "\x82\x80\x80\x80\x10",
		// Too great for 64 bits, and what would be a literal, were it taken modulo 2 to the 63, 64 or more.
		strings.Repeat("\xff", 9) + "\x01", strings.Repeat("\x80", 9) + "\x01", strings.Repeat("\x80", 9) + "\x02",
		"\x82" + strings.Repeat("\x80", 8) + "\x01", "\x82" + strings.Repeat("\x80", 8) + "\x02", "\x82" + strings.Repeat("\x80", 9) + "\x01", "\x82" + strings.Repeat("\x80", 1000) + "\x01",
	}
}

func TestSize(t *testing.T) {
	for _, x := range edgeLiterals() {
		if got := Size(x.l); got != len(x.b) {
			t.Errorf("Size(%d) = %d", x.l, got)
		}
	}
	for l := -top; l <= top; l++ {
		want := len(plainLiteral(l))
		if l == 0 {
			want = 0
		}
		if got := Size(l); got != want {
			t.Fatalf("Size(%d) = %d", l, got)
		}
	}
	for _, l := range noLiterals() {
		if got := Size(l); got != 0 {
			t.Errorf("Size(%d) = %d", l, got)
		}
	}
}

func TestEncode(t *testing.T) {
	tests := []struct {
		l    []api.Step
		want string
	}{
		{nil, ""}, {proof(), ""},
		{proof(add(1, -2)), "a\x02\x05\x00"},
		{proof(add()), "a\x00"}, {proof(del()), "d\x00"}, {proof(api.Step{Lits: []int{}}, api.Step{Del: true, Lits: []int{}}), "a\x00d\x00"},
		{proof(del(1, -2)), "d\x02\x05\x00"}, {proof(add(-2, 1)), "a\x05\x02\x00"}, {proof(add(1, 1, -1)), "a\x02\x02\x03\x00"},
		{proof(add(1, -2), del(1)), "a\x02\x05\x00d\x02\x00"},
		{proof(del(1), add(-1), add(), del(), del(2), add(2)), "d\x02\x00a\x03\x00a\x00d\x00d\x04\x00a\x04\x00"},
		{proof(del(50, -48)), "d\x64\x61\x00"},
		{proof(add(64, top, 1, -8192)), "a\x80\x01\x80\x80\x80\x01\x02\x81\x80\x01\x00"},
	}
	for _, x := range tests {
		if b, e := Encode(x.l); e != api.OK || string(b) != x.want {
			t.Errorf("Encode(%s) = %q, %d", tell(x.l), b, e)
		}
		decodes(t, x.want, x.l)
	}
	for _, x := range edgeLiterals() {
		for _, y := range edgeLiterals() {
			l := proof(add(x.l, y.l), del(y.l))
			want := "a" + x.b + y.b + "\x00d" + y.b + "\x00"
			if b, e := Encode(l); e != api.OK || string(b) != want {
				t.Errorf("Encode(%s) = %q, %d", tell(l), b, e)
			}
			decodes(t, want, l)
		}
	}
}

func TestEncodeOfNoProof(t *testing.T) {
	// Too many bytes, too: what is named first is told.
	long := slices.Repeat(proof(add(slices.Repeat([]int{1}, 32)...)), api.MaxSteps-1)
	for i, l := range append(noProofs(), append(long, add(0)), append(long, add(1), add(1))) {
		if b, e := Encode(l); e != api.ErrArg || b != nil {
			t.Errorf("no proof %d: %d bytes, %d", i, len(b), e)
		}
	}
}

// longest is a proof of just MaxText bytes.
func longest() []api.Step {
	const size = 4096
	l := make([]api.Step, api.MaxText/size)
	for i := range l {
		l[i] = api.Step{Del: i%3 == 1, Lits: slices.Repeat([]int{63 - i%2*126}, size-2)}
	}
	return l
}

func TestLongProofs(t *testing.T) {
	l := longest()
	b, e := Encode(l)
	if e != api.OK || len(b) != api.MaxText {
		t.Fatalf("%d bytes, %d", len(b), e)
	}
	decodes(t, string(b), l)
	tells(t, Load, string(b), l)
	tooLong := func(l []api.Step) {
		t.Helper()
		if b, e := Encode(l); e != api.ErrLong || b != nil {
			t.Errorf("%s: %d bytes, %d", tell(l), len(b), e)
		}
	}
	// One byte more: of a literal, at the end or at the beginning, or one literal more, or a step.
	last := len(l) - 1
	for _, i := range []int{0, last / 2, last} {
		old := l[i].Lits[7]
		l[i].Lits[7] = 64
		tooLong(l)
		l[i].Lits[7] = old
		c := l[i].Lits
		l[i].Lits = append(slices.Clone(c), 1)
		tooLong(l)
		l[i].Lits = c
	}
	tooLong(append(l, add()))
	tooLong(append(l, del()))
	// A longer literal in the place of two.
	l[last].Lits = append(slices.Clone(l[last].Lits[2:]), -64)
	if b, e := Encode(l); e != api.OK || len(b) != api.MaxText || string(b) != plainBytes(l) {
		t.Errorf("%d bytes, %d", len(b), e)
	}
	tooLong(slices.Repeat(proof(add(slices.Repeat([]int{1}, 16)...)), api.MaxSteps))
	tooLong(slices.Repeat(proof(del(slices.Repeat([]int{-top}, api.MaxWide)...)), 4096))
	most := slices.Repeat(proof(add(slices.Repeat([]int{1}, 14)...)), api.MaxSteps)
	if b, e := Encode(most); e != api.OK || len(b) != api.MaxText {
		t.Errorf("%s: %d bytes, %d", tell(most), len(b), e)
	}
	most[api.MaxSteps-1] = add(slices.Repeat([]int{1}, 15)...)
	tooLong(most)
}

func TestDecodeOfTooManyBytes(t *testing.T) {
	full := plainBytes(longest())
	for _, more := range []string{"a", "a\x00", "x", "\x00", strings.Repeat("a\x00", 1000), full} {
		wrong(t, full+more, 0, api.ErrLong)
		refuses(t, Load, full+more, 0, api.ErrLong)
	}
	// Named ahead of all that is wrong in them.
	for _, with := range []string{"x", "\x00", "a", "\x80", "\xff"} {
		wrong(t, "a"+strings.Repeat(with, api.MaxText), 0, api.ErrLong)
		wrong(t, strings.Repeat(with, api.MaxText+1), 0, api.ErrLong)
		refuses(t, Load, strings.Repeat(with, api.MaxText+1), 0, api.ErrLong)
	}
	// A text, too.
	refuses(t, Load, strings.Repeat(" ", api.MaxText+1), 0, api.ErrLong)
	tells(t, Load, strings.Repeat(" ", api.MaxText), nil)
	tells(t, Load, strings.Repeat("\n", api.MaxText-5)+"d 1 0", proof(del(1)))
	wrong(t, full[:api.MaxText-1]+"\x02", api.MaxText, api.ErrText)
	wrong(t, full[:api.MaxText-1]+"\x80", api.MaxText-1, api.ErrText)
}

func TestDecode(t *testing.T) {
	decodes(t, "", nil)
	tests := []struct {
		b    string
		want []api.Step
	}{
		{"a\x00", proof(add())}, {"d\x00", proof(del())}, {"a\x00a\x00", proof(add(), add())}, {"d\x00d\x00a\x00", proof(del(), del(), add())},
		{"a\x02\x05\x00", proof(add(1, -2))}, {"d\x03\x00", proof(del(-1))},
		// The bytes that begin steps are literals' within a step.
		{"aa\x00", proof(add(-48))}, {"ad\x00", proof(add(50))}, {"dd\x00", proof(del(50))}, {"daaad\x00ada\x00", proof(del(-48, -48, -48, 50), add(50, -48))},
		{"a\x80a\x00", proof(add(97 * 64))}, {"a\xe1d\x00", proof(add(-(100*64 + 48)))},
	}
	for _, x := range tests {
		decodes(t, x.b, x.want)
		if Binary([]byte(x.b)) {
			tells(t, Load, x.b, x.want)
		}
	}
	wide := slices.Repeat([]int{1}, api.MaxWide)
	decodes(t, "a"+strings.Repeat("\x02", api.MaxWide)+"\x00d"+strings.Repeat("\x02", api.MaxWide)+"\x00", proof(add(wide...), del(wide...)))
	decodes(t, strings.Repeat("a\x00", api.MaxSteps), slices.Repeat(proof(add()), api.MaxSteps))
	decodes(t, strings.Repeat("d\x05\x00", api.MaxSteps), slices.Repeat(proof(del(-2)), api.MaxSteps))
}

// begins is right steps that may stand ahead of what is wrong.
func begins() []string {
	return []string{"", "a\x00", "d\x00", "a\x02\x05\x00", "d\x81\x80\x80\x01\x00a\x00", strings.Repeat("a\x80\x01\x00", 1000)}
}

func TestDecodeOfWhatBeginsNoStep(t *testing.T) {
	for _, ahead := range begins() {
		for c := range 256 {
			first := string([]byte{byte(c)})
			if c == 'a' || c == 'd' {
				decodes(t, first+"\x02\x00", []api.Step{{Del: c == 'd', Lits: []int{1}}})
				continue
			}
			for _, behind := range []string{"", "\x00", "\x02\x00", "a\x00", "\x80"} {
				wrong(t, ahead+first+behind, len(ahead), api.ErrText)
			}
		}
	}
	// A 0 too many, and none behind the step ahead.
	wrong(t, "a\x02\x00\x00", 3, api.ErrText)
	wrong(t, "a\x02a\x02\x00\x02\x00", 5, api.ErrText)
	wrong(t, "A\x00", 0, api.ErrText)
	wrong(t, "1 -2 0\n", 0, api.ErrText)
	wrong(t, "d 1 0\n", 6, api.ErrText)
	wrong(t, "d\x00 0\n", 2, api.ErrText)
}

func TestDecodeOfTooManySteps(t *testing.T) {
	for _, w := range []string{"a\x00", "d\x03\x00", "a\x80\x01\x02\x00"} {
		full := strings.Repeat(w, api.MaxSteps)
		if l, at, e := Decode([]byte(full)); len(l) != api.MaxSteps || at != 0 || e != api.OK {
			t.Errorf("%s: %d steps, %d, %d", short(full), len(l), at, e)
		}
		for _, more := range []string{"a\x00", "d\x00", "a\x02\x00", "a", "d", "a\x02", "a\x01\x00", "d\x80", "a\x00a\x00", "a\x00x", "a" + strings.Repeat("\x02", api.MaxWide+1) + "\x00"} {
			wrong(t, full+more, len(full), api.ErrLong)
		}
		// Named ahead of it.
		for _, more := range []string{"x", "\x00", "\x02\x00", "\x80", "\xffa\x00"} {
			wrong(t, full+more, len(full), api.ErrText)
		}
		short := full[:len(full)-len(w)]
		for _, more := range []string{"a", "d", "a\x02", "d\x80\x01"} {
			wrong(t, short+more, len(short)+len(more), api.ErrText)
		}
	}
}

func TestDecodeOfWrongNumbers(t *testing.T) {
	numbers := append(badNumbers(),
		strings.Repeat("\x80", api.MaxText/2)+"\x00", strings.Repeat("\x80", api.MaxText/2)+"\x01", strings.Repeat("\xff", api.MaxText/2)+"\x7f", "\x82"+strings.Repeat("\x80", api.MaxText/2)+"\x00")
	for _, ahead := range begins() {
		for _, first := range []string{"a", "d", "a\x02", "d\x80\x80\x80\x01\x03", "a" + strings.Repeat("\xff\x01", 100)} {
			for _, n := range numbers {
				for _, behind := range []string{"\x00", "", "\x02\x00", "\x00a\x00"} {
					wrong(t, ahead+first+n+behind, len(ahead)+len(first), api.ErrText)
				}
			}
		}
	}
	wrong(t, "a"+strings.Repeat("\x80", api.MaxText-1), 1, api.ErrText)
	wrong(t, "a"+strings.Repeat("\xff", api.MaxText-3)+"\x01\x00", 1, api.ErrText)
	wrong(t, "d\x02"+strings.Repeat("\x80", api.MaxText-4)+"\x00\x00", 2, api.ErrText)
}

func TestDecodeOfNumbersThatAreCutOff(t *testing.T) {
	cut := []string{"\x80", "\x81", "\x82", "\xff", "\x80\x80", "\xff\xff", "\x80\x80\x80", "\x81\x80\x80", "\xff\xff\xff", "\x80\x80\x80\x80", strings.Repeat("\x80", 9), strings.Repeat("\xff", 10), strings.Repeat("\x80", 1000)}
	for _, ahead := range begins() {
		for _, first := range []string{"a", "d", "a\x02\x02", "d\x80\x01"} {
			for _, n := range cut {
				wrong(t, ahead+first+n, len(ahead)+len(first), api.ErrText)
			}
		}
	}
}

func TestDecodeOfWideClauses(t *testing.T) {
	for _, ahead := range begins() {
		for _, w := range []string{"\x02", "\xff\x7f", "\x80\x80\x01", "\x81\x80\x80\x01"} {
			full := ahead + "d" + strings.Repeat(w, api.MaxWide)
			if _, at, e := Decode([]byte(full + "\x00")); at != 0 || e != api.OK {
				t.Errorf("%s: %d, %d", short(full), at, e)
			}
			for _, x := range edgeLiterals() {
				wrong(t, full+x.b+"\x00", len(full), api.ErrLong)
			}
			for _, more := range []string{"\x02", "\x80\x01", "\x02\x01\x00", "\x02\x80", "\x02\x02\x00", "a", "d\x00", "\x02\x00x"} {
				wrong(t, full+more, len(full), api.ErrLong)
			}
			// Named ahead of it.
			for _, n := range badNumbers() {
				wrong(t, full+n+"\x00", len(full), api.ErrText)
			}
			wrong(t, full+"\x80", len(full), api.ErrText)
			wrong(t, full+"\xff\xff\xff", len(full), api.ErrText)
			wrong(t, full, len(full), api.ErrText)
			wrong(t, full+"\x00\x02", len(full)+1, api.ErrText)
		}
	}
}

func TestDecodeOfStepsWithoutTheirEnd(t *testing.T) {
	for _, ahead := range begins() {
		for _, last := range []string{"a", "d", "a\x02", "d\x02", "a\x02\x05", "aa", "ad", "a\x80\x01", "d\xff\x7f\x80\x80\x01", "a\x81\x80\x80\x01", "d" + strings.Repeat("\x02", api.MaxWide)} {
			wrong(t, ahead+last, len(ahead+last), api.ErrText)
		}
	}
}

func TestWhatIsWrongFirst(t *testing.T) {
	wide := "a" + strings.Repeat("\x02", api.MaxWide)
	many := strings.Repeat("a\x00", api.MaxSteps)
	wrong(t, "a\x01\x01\x00x", 1, api.ErrText)
	wrong(t, "a\x02\x01\x80", 2, api.ErrText)
	wrong(t, "a\x00x\x01", 2, api.ErrText)
	wrong(t, "a\x02\x00a\x82\x00x", 4, api.ErrText)
	wrong(t, "x"+wide+"\x02", 0, api.ErrText)
	wrong(t, "a\x01\x00"+wide+"\x02\x00", 1, api.ErrText)
	wrong(t, wide+"\x02\x01\x00x", len(wide), api.ErrLong)
	wrong(t, wide+"\x00x"+wide+"\x02", len(wide)+1, api.ErrText)
	wrong(t, wide+"\x02\x00"+many, len(wide), api.ErrLong)
	wrong(t, "x"+many+"a\x00", 0, api.ErrText)
	wrong(t, many[:api.MaxSteps]+"x"+many, api.MaxSteps, api.ErrText)
	wrong(t, many[:api.MaxSteps]+"a\x01\x00"+many, api.MaxSteps+1, api.ErrText)
	wrong(t, many+"a\x01", len(many), api.ErrLong)
	wrong(t, many+wide+"\x02", len(many), api.ErrLong)
}

func TestBinary(t *testing.T) {
	is := func(b string, want bool) {
		t.Helper()
		if got := Binary([]byte(b)); got != want {
			t.Errorf("Binary(%s) = %v", short(b), got)
		}
	}
	if Binary(nil) {
		t.Error("of none")
	}
	const ofText = " \t\n\r-0123456789d"
	for c := range 256 {
		x := string([]byte{byte(c)})
		ofBytes := !strings.Contains(ofText, x)
		for _, y := range ofText {
			for ahead := range 12 {
				b := strings.Repeat(string(y), ahead) + x
				is(b, ofBytes && ahead < 10)
				is(b+"1 0\n", ofBytes && ahead < 10)
				is(b+"\x00\x02a", ofBytes && ahead < 10 || ahead < 9)
			}
		}
	}
	is("", false)
	is("a", true)
	is("d", false)
	is("1 0\n", false)
	is("1 -2 0\nd 1 0\n", false)
	is("d \r\t-90\n1a", true)
	is("d \r\t-90\n12a", false)
	is("a\x02\x05\x00", true)
	is("d\x00", true)
	is("d00000000\x00", true)
	is("d000000000\x00", false)
	is(strings.Repeat("1 0\n", api.MaxText)+"\x00", false)
	is("\x00"+strings.Repeat("1 0\n", api.MaxText), true)
	is(ofText[:10], false)
	is(ofText, false)
}

func TestLoadOfBytes(t *testing.T) {
	tells(t, Load, "a\x02\x05\x00", proof(add(1, -2)))
	tells(t, Load, "a\x00d\x02\x00", proof(add(), del(1)))
	// The first step goes, and there is a byte of no text early enough, as a literal's or as its 0, the tenth at the latest.
	tells(t, Load, "d\x00", proof(del()))
	tells(t, Load, "d\x02\x00", proof(del(1)))
	tells(t, Load, "d0\x00", proof(del(24)))
	tells(t, Load, "d00000000\x00", proof(del(24, 24, 24, 24, 24, 24, 24, 24)))
	tells(t, Load, "d0\t 0-0\r0\x8001\x00", proof(del(24, -4, 16, 24, -22, 24, -6, 24, 48*64, -24)))
	// It has none: then it is a text, by what layer 4 says of it.
	refuses(t, Load, "d000000000\x00", 0, api.ErrText)
	decodes(t, "d000000000\x00", proof(del(24, 24, 24, 24, 24, 24, 24, 24, 24)))
	refuses(t, Load, "d 0\n0\n0\n00\x00", 8, api.ErrText)
	decodes(t, "d 0\n0\n0\n00\x00", proof(del(16, 24, 5, 24, 5, 24, 5, 24, 24)))
	// What is wrong with bytes, ahead of layer 4's words.
	refuses(t, Load, "x 0", 0, api.ErrText)
	refuses(t, Load, "1 x 0", 0, api.ErrText)
	refuses(t, Load, "a", 1, api.ErrText)
	refuses(t, Load, "a\x02", 2, api.ErrText)
	refuses(t, Load, "a\x02\x80", 2, api.ErrText)
	refuses(t, Load, "d\x01", 1, api.ErrText)
	refuses(t, Load, "d 1 0 x", 7, api.ErrText)
	wide := "d" + strings.Repeat("\x02", api.MaxWide)
	refuses(t, Load, wide+"\x02\x00", len(wide), api.ErrLong)
	many := strings.Repeat("d\x00", api.MaxSteps)
	refuses(t, Load, many+"a", len(many), api.ErrLong)
}

func TestLoadOfTexts(t *testing.T) {
	tells(t, Load, "", nil)
	tells(t, Load, "\n", nil)
	tells(t, Load, "0", proof(add()))
	tells(t, Load, "d 0", proof(del()))
	tells(t, Load, "1 -2 0 d 1 0", proof(add(1, -2), del(1)))
	tells(t, Load, "d 1 0\r\n\t-1048576 1048576 0", proof(del(1), add(-top, top)))
	refuses(t, Load, "d", 1, api.ErrText)
	refuses(t, Load, "1 2", 3, api.ErrText)
	refuses(t, Load, "0 d d 0", 4, api.ErrText)
	refuses(t, Load, "1048577 0", 0, api.ErrText)
	// Behind the tenth byte all is layer 4's.
	refuses(t, Load, "1 -2 0 d 1 a", 11, api.ErrText)
	refuses(t, Load, "1 0 2 0 3 0\x00", 10, api.ErrText)
	refuses(t, Load, "1 0 2 0 3 x 0", 10, api.ErrText)
	wide := strings.Repeat("1 ", api.MaxWide)
	refuses(t, Load, wide+"1 0", len(wide), api.ErrLong)
	many := strings.Repeat("d 0 ", api.MaxSteps)
	refuses(t, Load, many+"d 0", len(many), api.ErrLong)
	tells(t, Load, many, slices.Repeat(proof(del()), api.MaxSteps))
}

// TestLoadAsItIsToldOf holds Load against Decode and layer 4's Read, at all files of some pieces.
func TestLoadAsItIsToldOf(t *testing.T) {
	var texts, files int
	for _, pieces := range [][]string{
		{"1", "0", " ", "d", "-"},
		{"1 0\n", "d ", "2\t", "-3\r", "0 ", "x"},
		{"a", "d", "\x00", "0", " ", "\x02"},
		{"00000000", "d", "0 ", "a", "\x00", "\x80"},
	} {
		for _, b := range allOf(pieces, 6) {
			if Binary([]byte(b)) {
				agree(t, Load, Decode, b)
				files++
			} else {
				agree(t, Load, trace.Read, b)
				texts++
			}
		}
	}
	if texts < 1000 || files < 1000 {
		t.Errorf("%d texts, %d files of bytes", texts, files)
	}
}

// allOf is all texts of up to most of these pieces.
func allOf(pieces []string, most int) []string {
	all := []string{""}
	last := all
	for range most {
		var longer []string
		for _, b := range last {
			for _, p := range pieces {
				longer = append(longer, b+p)
			}
		}
		all = append(all, longer...)
		last = longer
	}
	return all
}

// decodePlainly is Decode of bytes without too many steps or literals, by the library's numbers.
func decodePlainly(b []byte) ([]api.Step, int, api.Errno) {
	var l []api.Step
	inside := false
	for at := 0; at < len(b); {
		if !inside {
			if b[at] != 'a' && b[at] != 'd' {
				return nil, at, api.ErrText
			}
			l = append(l, api.Step{Del: b[at] == 'd'})
			inside = true
			at++
			continue
		}
		if b[at] == 0 {
			inside = false
			at++
			continue
		}
		n, size := binary.Uvarint(b[at:])
		if size <= 0 || n < 2 || n > 2*top+1 || size != len(plainNumber(int(n))) {
			return nil, at, api.ErrText
		}
		v := int(n / 2)
		if n%2 == 1 {
			v = -v
		}
		last := len(l) - 1
		l[last].Lits = append(l[last].Lits, v)
		at += size
	}
	if inside {
		return nil, len(b), api.ErrText
	}
	return l, 0, api.OK
}

// TestAgainstAPlainDecoder holds Decode against a plain one, at all bytes of some pieces.
func TestAgainstAPlainDecoder(t *testing.T) {
	var right, faulty int
	hold := func(b string) {
		t.Helper()
		agree(t, Decode, func(b []byte) ([]api.Step, int, api.Errno) { return decodePlainly(b) }, b)
		if l, _, e := Decode([]byte(b)); e != api.OK {
			faulty++
		} else if again, e := Encode(l); e != api.OK || string(again) != b {
			t.Errorf("%s, encoded again: %q, %d", short(b), again, e)
		} else {
			right++
		}
	}
	for _, b := range allOf([]string{"a", "d", "\x00", "\x01", "\x80", "\x7f"}, 6) {
		hold(b)
	}
	for _, b := range allOf([]string{"a", "\x00", "\x02", "\x80", "\x81", "\x82", "\xff"}, 5) {
		hold("a" + b)
		hold("d" + b + "\x00")
	}
	for _, b := range allOf([]string{"\x80\x80", "\x80", "\x01", "\x00", "a\x80", "\xff\xff\xff"}, 5) {
		hold("a" + b + "\x00")
	}
	// Each two bytes there may be, alone, and as the highest of greater numbers.
	for n := range 1 << 16 {
		two := string([]byte{byte(n), byte(n >> 8)})
		hold("a" + two + "\x00")
		hold("d\x80" + two + "\x00")
		hold("a\xff\x80" + two + "\x00")
	}
	if right < 10000 || faulty < 10000 {
		t.Errorf("%d right, %d wrong", right, faulty)
	}
}

// numbers is a function that tells a number below n each time, by a rule that does not repeat soon.
func numbers() func(n int) int {
	seed := uint32(1)
	return func(n int) int {
		seed = seed*1664525 + 1013904223
		return int(seed>>8) % n
	}
}

// someProofs is proofs of many kinds.
func someProofs() [][]api.Step {
	wide := make([]int, api.MaxWide)
	for i := range wide {
		wide[i] = (top - i) * (1 - 2*(i%2))
	}
	all := [][]api.Step{
		nil, proof(add()), proof(del()), proof(add(1, -2), del(1)), proof(add(), del(), add(-3, -3, 3), del()),
		proof(add(top), del(-top, 1)), proof(add(wide...), del(wide...), add(1)), proof(del(wide...)),
		proof(add(24, 24, 24, 24, 24, 24, 24, 24, 24, 24)), proof(del(24, 24, 24, 24, 24, 24, 24, 24, 24, 24)),
		slices.Repeat(proof(add()), api.MaxSteps), slices.Repeat(proof(del(-9, 8)), api.MaxSteps),
	}
	next := numbers()
	for vars := 1; vars <= 1000; vars++ {
		var l []api.Step
		for range next(20) {
			s := api.Step{Del: next(3) == 0}
			for range next(10) {
				s.Lits = append(s.Lits, (1+next(vars*vars))*(1-2*next(2)))
			}
			l = append(l, s)
		}
		all = append(all, l)
	}
	return all
}

func TestWhatIsEncodedIsDecodedAndLoaded(t *testing.T) {
	var goes int
	for _, l := range someProofs() {
		b, e := Encode(l)
		if e != api.OK || string(b) != plainBytes(l) {
			t.Fatalf("Encode(%s) = %s, %d", tell(l), short(string(b)), e)
		}
		decodes(t, string(b), l)
		size := 0
		for _, s := range l {
			size += 2
			for _, x := range s.Lits {
				size += Size(x)
			}
		}
		if size != len(b) {
			t.Errorf("Encode(%s): %d bytes, but by Size %d", tell(l), len(b), size)
		}
		if len(l) == 0 || !l[0].Del {
			tells(t, Load, string(b), l)
		} else if Binary(b) {
			goes++
			tells(t, Load, string(b), l)
		} else {
			agree(t, Load, trace.Read, string(b))
		}
	}
	if goes < 100 {
		t.Errorf("only %d whose first step goes", goes)
	}
}

func TestAllLiterals(t *testing.T) {
	for begin := -top; begin <= top; begin += api.MaxWide {
		var c []int
		for v := begin; v < begin+api.MaxWide && v <= top; v++ {
			if v != 0 {
				c = append(c, v)
			}
		}
		l := proof(add(c...))
		b, e := Encode(l)
		if e != api.OK || string(b) != plainBytes(l) {
			t.Fatalf("from %d on: %s, %d", begin, short(string(b)), e)
		}
		decodes(t, string(b), l)
	}
}

func TestWhatLayerFourPrintsIsLoaded(t *testing.T) {
	for _, l := range someProofs() {
		b, e := trace.Print(l)
		if e != api.OK || Binary(b) {
			t.Fatalf("%s: %d, %s", tell(l), e, short(string(b)))
		}
		tells(t, Load, string(b), l)
	}
}

func TestNothingHandedInIsWrittenToOrKept(t *testing.T) {
	const encoded = "a\x02\x05\x02\x00d\x80\x01\x00a\x00a\x04\x00"
	want := func() []api.Step { return proof(add(1, -2, 1), del(64), add(), add(2)) }
	for _, f := range []call{Decode, Load} {
		b := []byte(encoded)
		l, _, e := f(b)
		if e != api.OK || string(b) != encoded {
			t.Fatalf("%q, %d", b, e)
		}
		again, _, _ := f(b)
		Binary(b)
		clear(b)
		if !alike(l, want()) {
			t.Errorf("the bytes turned: %s", tell(l))
		}
		for i, s := range l {
			// To the end of what it may grow into.
			clear(s.Lits[:cap(s.Lits)])
			if !alike(l[i+1:], want()[i+1:]) {
				t.Errorf("step %d turned others: %s", i, tell(l))
			}
		}
		clear(l[:cap(l)])
		if !alike(again, want()) {
			t.Errorf("one answer turned another: %s", tell(again))
		}
	}
	l := want()
	first, _ := Encode(l)
	second, _ := Encode(l)
	clear(first[:cap(first)])
	if !alike(l, want()) || string(second) != encoded {
		t.Errorf("Encode: %s, %q", tell(l), second)
	}
}
