package card

import "fathom/api"

// The chapter's numbers, written out once more: a test by the package's own would follow whatever they turn to.
const (
	theCounted = 64
	theGates   = 1 << 20
)

// What stands here does just what the chapter's words say, of what is true, and is slow.

// plainEnough is as few bits as hold a number, 1 at least.
func plainEnough(n int) int {
	if n < 0 || n > 65535 {
		return 0
	}
	w, holds := 1, 2
	for holds <= n {
		w++
		holds *= 2
	}
	return w
}

// plainCount is how many are true.
func plainCount(list []bool) int {
	n := 0
	for _, is := range list {
		if is {
			n++
		}
	}
	return n
}

// plainNumber is the number of bits, the lowest one first.
func plainNumber(list []bool) int {
	n, worth := 0, 1
	for _, bit := range list {
		if bit {
			n += worth
		}
		worth *= 2
	}
	return n
}

// plainWord is the word of a number, of so many constants.
func plainWord(n, w int) []int {
	a := make([]int, w)
	for i := range a {
		a[i] = n % 2
		n /= 2
	}
	return a
}

// view tells of each literal whether it is true.
type view func(l int) bool

// all is what a list's literals are.
func (v view) all(l []int) []bool {
	list := make([]bool, len(l))
	for i, k := range l {
		list[i] = v(k)
	}
	return list
}

// holds tells whether each of some clauses has a literal that is true.
func (v view) holds(clauses [][]int) bool {
	for _, c := range clauses {
		if plainCount(v.all(c)) == 0 {
			return false
		}
	}
	return true
}

// A table tells of each of 64 ways in which six inputs may be, a bit for each, whether something is true.
const (
	tableIns  = 6
	tableWays = 1 << tableIns
)

// tables is the tables of a graph's nodes, of which more are told as the graph grows; its first six inputs are those of the ways, the others are false.
type tables struct {
	list   []uint64
	inputs int
}

// more tells those of the nodes that are not told yet.
func (t *tables) more(g []api.Gate) {
	for _, node := range g[len(t.list):] {
		if node.A >= 0 {
			t.list = append(t.list, t.of(node.A)&t.of(node.B))
			continue
		}
		k := uint64(0)
		for m := range tableWays {
			if t.inputs < tableIns {
				k |= uint64(m>>t.inputs&1) << m
			}
		}
		t.list = append(t.list, k)
		t.inputs++
	}
}

// of is a literal's table.
func (t *tables) of(l int) uint64 {
	k := uint64(0)
	if l >= 2 {
		k = t.list[l/2-1]
	}
	if l%2 == 1 {
		k = ^k
	}
	return k
}

// way is what literals are in one of the ways.
func (t *tables) way(m int) view {
	return func(l int) bool { return t.of(l)>>m&1 == 1 }
}
