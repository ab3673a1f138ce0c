package vec

import "fathom/api"

// The chapter's numbers, written out once more: a test by the package's own would follow whatever they turn to.
const (
	theWidth = 16
	theGates = 1 << 20
)

// What stands here does just what the chapter's words say, of numbers, and is slow.

// plainMod is a number modulo 2^w.
func plainMod(n, w int) int {
	size := 1
	for range w {
		size *= 2
	}
	n %= size
	if n < 0 {
		n += size
	}
	return n
}

// plainBits is a number's bits, the lowest one first.
func plainBits(n, w int) []bool {
	n = plainMod(n, w)
	list := make([]bool, w)
	for i := range list {
		list[i] = n%2 == 1
		n /= 2
	}
	return list
}

// plainNumber is the number of bits.
func plainNumber(list []bool) int {
	n, worth := 0, 1
	for _, bit := range list {
		if bit {
			n += worth
		}
		worth *= 2
	}
	return n
}

// plainEach is what is made of two numbers, bit by bit.
func plainEach(a, b, w int, made func(a, b bool) bool) int {
	list := make([]bool, w)
	for i := range list {
		list[i] = made(plainBits(a, w)[i], plainBits(b, w)[i])
	}
	return plainNumber(list)
}

func plainNot(a, w int) int {
	return plainEach(a, a, w, func(a, b bool) bool { return !a })
}

func plainAnd(a, b, w int) int {
	return plainEach(a, b, w, func(a, b bool) bool { return a && b })
}

func plainOr(a, b, w int) int {
	return plainEach(a, b, w, func(a, b bool) bool { return a || b })
}

func plainXor(a, b, w int) int {
	return plainEach(a, b, w, func(a, b bool) bool { return a != b })
}

func plainAdd(a, b, w int) int {
	return plainMod(a+b, w)
}

func plainSub(a, b, w int) int {
	return plainMod(a-b, w)
}

func plainNeg(a, w int) int {
	return plainMod(-a, w)
}

func plainMul(a, b, w int) int {
	return plainMod(a*b, w)
}

// plainQuotient is how often b can be taken away from a.
func plainQuotient(a, b, w int) int {
	if b == 0 {
		return plainMod(-1, w)
	}
	return a / b
}

// plainRest is what is left of a then.
func plainRest(a, b, w int) int {
	if b == 0 {
		return a
	}
	return a % b
}

func plainShl(a, b, w int) int {
	if b >= w {
		return 0
	}
	for range b {
		a = plainMod(2*a, w)
	}
	return a
}

func plainShr(a, b, w int) int {
	if b >= w {
		return 0
	}
	for range b {
		a /= 2
	}
	return a
}

func plainIte(c bool, a, b int) int {
	if c {
		return a
	}
	return b
}

// A table tells of each of 64 ways in which six inputs may be, a bit for each, whether something is true.
const (
	tableIns  = 6
	tableWays = 1 << tableIns
)

// tables is the tables of a graph's nodes, of which more are told as the graph grows; its first six inputs are those of the ways, the others are false.
type tables struct {
	list   []uint64
	inputs int
}

// more tells those of the nodes that are not told yet.
func (t *tables) more(g []api.Gate) {
	for _, node := range g[len(t.list):] {
		if node.A >= 0 {
			t.list = append(t.list, t.of(node.A)&t.of(node.B))
			continue
		}
		k := uint64(0)
		for m := range tableWays {
			if t.inputs < tableIns {
				k |= uint64(m>>t.inputs&1) << m
			}
		}
		t.list = append(t.list, k)
		t.inputs++
	}
}

// of is a literal's table.
func (t *tables) of(l int) uint64 {
	k := uint64(0)
	if l >= 2 {
		k = t.list[l/2-1]
	}
	if l%2 == 1 {
		k = ^k
	}
	return k
}

// number is the number of a word in one of the ways.
func (t *tables) number(a []int, way int) int {
	list := make([]bool, len(a))
	for i, l := range a {
		list[i] = t.of(l)>>way&1 == 1
	}
	return plainNumber(list)
}
