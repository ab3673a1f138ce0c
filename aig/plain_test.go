package aig

import (
	"slices"

	"fathom/api"
)

// The chapter's number, written out once more: a test by the package's own would follow whatever it turns to.
const theGates = 1 << 20

// What stands here does just what the chapter's words say, word by word, and is slow.

// plain is a graph: its nodes, and nothing by which they are found again.
type plain struct {
	nodes []api.Gate
}

// plainAnd tells whether a node is the "and" of two literals.
func plainAnd(g api.Gate) bool {
	return g.A != -1 || g.B != -1
}

// plainNode is the number of a literal's node; 0: it has none.
func plainNode(l int) int {
	for l%2 != 0 {
		l--
	}
	return l / 2
}

// plainNegation is a literal's negation: with its lowest bit turned.
func plainNegation(l int) int {
	if l%2 == 0 {
		return l + 1
	}
	return l - 1
}

// plainLiteral tells whether a number is a literal of one of so many nodes, or 0, or 1.
func plainLiteral(l, nodes int) bool {
	return l == 0 || l == 1 || l >= 2 && plainNode(l) >= 1 && plainNode(l) <= nodes
}

// plainMayBe tells whether there are such nodes.
func plainMayBe(g []api.Gate) bool {
	if len(g) > theGates {
		return false
	}
	for i, node := range g {
		if plainAnd(node) && (!plainLiteral(node.A, i) || !plainLiteral(node.B, i)) {
			return false
		}
	}
	return true
}

// in is an input more.
func (p *plain) in() int {
	return p.more(api.Gate{A: -1, B: -1})
}

// more is the literal of a node more; -1: there is no room.
func (p *plain) more(g api.Gate) int {
	if len(p.nodes) == theGates {
		return -1
	}
	p.nodes = append(p.nodes, g)
	return 2 * len(p.nodes)
}

// parts is the two literals that a literal's node is the "and" of, if it is an "and" node.
func (p *plain) parts(l int) (int, int, bool) {
	if plainNode(l) == 0 || !plainAnd(p.nodes[plainNode(l)-1]) {
		return 0, 0, false
	}
	g := p.nodes[plainNode(l)-1]
	return g.A, g.B, true
}

// and is what is made; -1, if one is no literal, or there is no room.
func (p *plain) and(a, b int) int {
	if !plainLiteral(a, len(p.nodes)) || !plainLiteral(b, len(p.nodes)) {
		return -1
	}
	return p.made(a, b)
}

// made is what is made of two literals.
func (p *plain) made(a, b int) int {
	if a > b {
		a, b = b, a
	}
	for _, rule := range []func(a, b int) (int, bool){p.rule1, p.rule2, p.rule3, p.rule4} {
		if l, applies := rule(a, b); applies {
			return l
		}
	}
	return p.more(api.Gate{A: a, B: b})
}

// rule1 is what the first rule makes, if it applies.
func (p *plain) rule1(a, b int) (int, bool) {
	if a == 0 {
		return 0, true
	}
	if a == 1 {
		return b, true
	}
	if a == b {
		return a, true
	}
	return 0, b == plainNegation(a)
}

// rule2 is what the second rule makes, if it applies.
func (p *plain) rule2(a, b int) (int, bool) {
	for _, way := range [][2]int{{a, b}, {b, a}} {
		a, b := way[0], way[1]
		c, d, is := p.parts(b)
		if !is || b%2 != 0 {
			continue
		}
		if a == c || a == d {
			return b, true
		}
		if plainNegation(a) == c || plainNegation(a) == d {
			return 0, true
		}
	}
	return 0, false
}

// rule3 is what the third rule makes, if it applies.
func (p *plain) rule3(a, b int) (int, bool) {
	for _, way := range [][2]int{{a, b}, {b, a}} {
		a, b := way[0], way[1]
		c, d, is := p.parts(b)
		if !is || b%2 == 0 {
			continue
		}
		if plainNegation(a) == c || plainNegation(a) == d {
			return a, true
		}
		if a == c {
			return p.made(a, plainNegation(d)), true
		}
		if a == d {
			return p.made(a, plainNegation(c)), true
		}
	}
	return 0, false
}

// rule4 is the first node of just the two, if there is one.
func (p *plain) rule4(a, b int) (int, bool) {
	for i, g := range p.nodes {
		if g == (api.Gate{A: a, B: b}) || g == (api.Gate{A: b, B: a}) {
			return 2*i + 2, true
		}
	}
	return 0, false
}

// or is the negation of the "and" of their negations.
func (p *plain) or(a, b int) int {
	l := p.and(plainNegation(a), plainNegation(b))
	if l == -1 {
		return -1
	}
	return plainNegation(l)
}

// either is the "or" of two that were made; -1, if one of these is.
func (p *plain) either(first, second int) int {
	if first == -1 || second == -1 {
		return -1
	}
	return p.or(first, second)
}

// xor is whether they are unlike.
func (p *plain) xor(a, b int) int {
	first := p.and(a, plainNegation(b))
	second := p.and(plainNegation(a), b)
	return p.either(first, second)
}

// ite is a, if c, else b.
func (p *plain) ite(c, a, b int) int {
	first := p.and(c, a)
	second := p.and(plainNegation(c), b)
	return p.either(first, second)
}

// all is the "and" of the first one and the second, and so on.
func (p *plain) all(l []int) int {
	if len(l) == 0 {
		return 1
	}
	if !plainLiteral(l[0], len(p.nodes)) {
		return -1
	}
	all := l[0]
	for _, k := range l[1:] {
		all = p.and(all, k)
	}
	return all
}

// A table tells of each of 64 ways in which six inputs may be, a bit for each, whether something is true.
const (
	tableIns  = 6
	tableWays = 1 << tableIns
)

// way is one of the ways: of each of the six inputs whether it is true.
func way(m int) []bool {
	ins := make([]bool, tableIns)
	for i := range ins {
		ins[i] = m>>i&1 == 1
	}
	return ins
}

// tables is each node's table, of nodes that have six inputs at most.
func tables(g []api.Gate) []uint64 {
	var list []uint64
	inputs := 0
	for _, node := range g {
		if plainAnd(node) {
			list = append(list, table(list, node.A)&table(list, node.B))
			continue
		}
		t := uint64(0)
		for m := range tableWays {
			t |= uint64(m>>inputs&1) << m
		}
		list = append(list, t)
		inputs++
	}
	return list
}

// table is a literal's.
func table(list []uint64, l int) uint64 {
	t := uint64(0)
	if plainNode(l) > 0 {
		t = list[plainNode(l)-1]
	}
	if l%2 != 0 {
		return ^t
	}
	return t
}

// twice tells whether two nodes are the "and" of the same two literals.
func twice(g []api.Gate) bool {
	var seen []api.Gate
	for _, node := range g {
		if !plainAnd(node) {
			continue
		}
		if node.A > node.B {
			node.A, node.B = node.B, node.A
		}
		if slices.Contains(seen, node) {
			return true
		}
		seen = append(seen, node)
	}
	return false
}
