package tseitin

import "fathom/api"

// The chapter's numbers, written out once more: a test by the package's own would follow whatever they turn to.
const (
	theGates   = 1 << 20
	theVars    = 1 << 20
	theWide    = 4096
	theClauses = 1 << 18
)

// What stands here does just what the chapter's words say, word by word, and is slow.

// plainInput tells whether a node is an input.
func plainInput(node api.Gate) bool {
	return node.A == -1 && node.B == -1
}

// plainLiteral tells whether a number is a literal of one of so many nodes, or 0, or 1.
func plainLiteral(l, nodes int) bool {
	return l >= 0 && l < 2+2*nodes
}

// plainMayBe tells whether there are such nodes.
func plainMayBe(g []api.Gate) bool {
	if len(g) > theGates {
		return false
	}
	for i, node := range g {
		if !plainInput(node) && !(plainLiteral(node.A, i) && plainLiteral(node.B, i)) {
			return false
		}
	}
	return true
}

// plainNode is the number of a literal's node; 0: it has none.
func plainNode(l int) int {
	if l%2 == 1 {
		l--
	}
	return l / 2
}

// plainNegation is a literal's negation.
func plainNegation(l int) int {
	if l%2 == 1 {
		return l - 1
	}
	return l + 1
}

// plainHung is the numbers of the nodes that clauses hang on: they are gone through till none is new.
func plainHung(g []api.Gate, clauses [][]int) map[int]bool {
	hung := map[int]bool{}
	for _, c := range clauses {
		for _, l := range c {
			hung[plainNode(l)] = true
		}
	}
	for known := -1; known < len(hung); {
		known = len(hung)
		for n := range len(g) + 1 {
			if n > 0 && hung[n] && !plainInput(g[n-1]) {
				hung[plainNode(g[n-1].A)] = true
				hung[plainNode(g[n-1].B)] = true
			}
		}
	}
	delete(hung, 0)
	return hung
}

// plainClauses is all clauses, of literals of the graph: those of nodes, and those that are asked.
func plainClauses(g []api.Gate, clauses [][]int, hung map[int]bool) [][]int {
	var list [][]int
	for i, node := range g {
		if n := 2 * (i + 1); hung[i+1] && !plainInput(node) {
			list = append(list, []int{plainNegation(n), node.A})
			list = append(list, []int{plainNegation(n), node.B})
			list = append(list, []int{n, plainNegation(node.A), plainNegation(node.B)})
		}
	}
	return append(list, clauses...)
}

// plainCode is the formula's literal of a graph's; 0: none.
func plainCode(vars []int, l int) int {
	if !plainLiteral(l, len(vars)) || plainNode(l) == 0 {
		return 0
	}
	if l%2 == 1 {
		return -vars[plainNode(l)-1]
	}
	return vars[plainNode(l)-1]
}

// plainBuild is the formula of nodes and clauses, or why there is none.
func plainBuild(g []api.Gate, clauses [][]int) (api.Coded, api.Errno) {
	if !plainMayBe(g) {
		return api.Coded{}, api.ErrArg
	}
	for _, c := range clauses {
		for _, l := range c {
			if !plainLiteral(l, len(g)) {
				return api.Coded{}, api.ErrArg
			}
		}
		if len(c) > theWide {
			return api.Coded{}, api.ErrArg
		}
	}
	hung := plainHung(g, clauses)
	told := api.Coded{Vars: make([]int, len(g)), Cnf: api.Cnf{Vars: len(hung)}}
	next := 1
	for n := 1; n <= len(g); n++ {
		if hung[n] {
			told.Vars[n-1] = next
			next++
		}
	}
	for _, c := range plainClauses(g, clauses, hung) {
		var coded []int
		out := false
		for _, l := range c {
			switch l {
			case 0:
			case 1:
				out = true
			default:
				coded = append(coded, plainCode(told.Vars, l))
			}
		}
		if !out {
			told.Cnf.Clauses = append(told.Cnf.Clauses, coded)
		}
	}
	if len(told.Cnf.Clauses) > theClauses {
		return api.Coded{}, api.ErrFull
	}
	return told, api.OK
}

// plainNodes is of each node whether it is true, by inputs.
func plainNodes(g []api.Gate, ins []bool) []bool {
	var list []bool
	for _, node := range g {
		if !plainInput(node) {
			list = append(list, plainTrue(list, node.A) && plainTrue(list, node.B))
			continue
		}
		list = append(list, len(ins) > 0 && ins[0])
		if len(ins) > 0 {
			ins = ins[1:]
		}
	}
	return list
}

// plainTrue tells whether a number is a literal that is true.
func plainTrue(nodes []bool, l int) bool {
	if !plainLiteral(l, len(nodes)) {
		return false
	}
	is := plainNode(l) > 0 && nodes[plainNode(l)-1]
	return is == (l%2 == 0)
}

// plainAsked tells whether each clause has a literal that is true.
func plainAsked(g []api.Gate, clauses [][]int, ins []bool) bool {
	if !plainMayBe(g) {
		return false
	}
	nodes := plainNodes(g, ins)
	for _, c := range clauses {
		some := false
		for _, l := range c {
			some = some || plainTrue(nodes, l)
		}
		if !some {
			return false
		}
	}
	return true
}

// plainIns is of each input whether its variable is true.
func plainIns(g []api.Gate, vars, m []int) []bool {
	if !plainMayBe(g) || len(vars) != len(g) {
		return nil
	}
	var ins []bool
	for i, node := range g {
		if plainInput(node) {
			v := vars[i]
			ins = append(ins, v >= 1 && v <= theVars && v <= len(m) && m[v-1] > 0)
		}
	}
	return ins
}

// plainHolds tells whether each clause of a formula has a literal that is true by a model.
func plainHolds(f api.Cnf, m []int) bool {
	for _, c := range f.Clauses {
		some := false
		for _, l := range c {
			some = some || l > 0 && l <= len(m) && m[l-1] > 0 || l < 0 && -l <= len(m) && m[-l-1] < 0
		}
		if !some {
			return false
		}
	}
	return true
}

// plainAs tells whether each node's variable, if it has one, is by a model as the node is by inputs.
func plainAs(g []api.Gate, vars, m []int, ins []bool) bool {
	for i, is := range plainNodes(g, ins) {
		v := vars[i]
		if v > 0 && !(is && m[v-1] > 0 || !is && m[v-1] < 0) {
			return false
		}
	}
	return true
}

// plainModel is the model by which each node's variable is as the node is by inputs.
func plainModel(g []api.Gate, c api.Coded, ins []bool) []int {
	m := make([]int, c.Cnf.Vars)
	for i, is := range plainNodes(g, ins) {
		if v := c.Vars[i]; v > 0 && is {
			m[v-1] = 1
		} else if v > 0 {
			m[v-1] = -1
		}
	}
	return m
}
